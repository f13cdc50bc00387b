import Derived.Test.YtfkaabhmcdiihaaSySeven
/-! The constants: the digits of the roots. -/
namespace Go.Sy
open Go.RowKit (Below)
namespace Sha
def primesN : List Nat := [2, 3, 5, 7, 11, 13, 17, 19, 23, 29, 31, 37, 41, 43, 47, 53, 59, 61, 67, 71, 73, 79, 83, 89, 97, 101, 103, 107, 109, 113, 127, 131, 137, 139, 149, 151, 157, 163, 167, 173, 179, 181, 191, 193, 197, 199, 211, 223, 227, 229, 233, 239, 241, 251, 257, 263, 269, 271, 277, 281, 283, 293, 307, 311]
/-- A root with one digit more, or not. -/
noncomputable def newR (D r p : Nat) : Nat :=
  natK (Nat.lor r D) fun a => natK (Nat.mul a a) fun sq => natK (Nat.div sq 18446744073709551616) fun h => natK (Nat.mod sq 18446744073709551616) fun l =>
  natK (Nat.mod (Nat.add (Nat.div (Nat.mul l a) 18446744073709551616) (Nat.mod (Nat.mul h a) 18446744073709551616)) 18446744073709551616) fun x =>
  Nat.lor r (Nat.mod (Nat.mul D (bif_ (Nat.blt x (Nat.mul p 4294967296)) 1 0)) 18446744073709551616)
theorem bif_blt (x y : Nat) : (bif_ (Nat.blt x y) 1 0 : Nat) = if x < y + 0 then 1 else 0 := by
  rw [blt_iff]
  by_cases c : x < y
  · rw [decide_eq_true c, if_pos (by omega)]; rfl
  · rw [decide_eq_false c, if_neg (by omega)]; rfl
theorem newR_eq (D r p : Nat) : newR D r p = r ||| (D * (if ((r ||| D) * (r ||| D) % 18446744073709551616 * (r ||| D) / 18446744073709551616 + (r ||| D) * (r ||| D) / 18446744073709551616 * (r ||| D) % 18446744073709551616) % 18446744073709551616 < p * 4294967296 + 0 then 1 else 0)) % 18446744073709551616 := by
  unfold newR
  simp only [natK_eq]
  rw [← bif_blt]; rfl
theorem newR_lt {D r : Nat} (p : Nat) (hr : r < 18446744073709551616) : newR D r p < 18446744073709551616 := by
  rw [newR_eq]
  exact Nat.or_lt_two_pow (n := 64) hr (Nat.mod_lt _ (by decide))
noncomputable def stepR (D : Nat) (ps : List Nat) : List Nat → List Nat :=
  List.rec (motive := fun _ => List Nat → List Nat) (fun _ => []) (fun p _ ih rs => match rs with | r :: rs => natK (newR D r p) fun x => x :: ih rs | [] => []) ps
theorem stepR_cons (D p r : Nat) (ps rs : List Nat) : stepR D (p :: ps) (r :: rs) = newR D r p :: stepR D ps rs := by
  show natK (newR D r p) (fun x => x :: stepR D ps rs) = _; rw [natK_eq]
theorem stepR_len (D : Nat) : ∀ (ps rs : List Nat), ps.length = rs.length → (stepR D ps rs).length = ps.length
  | [], _, _ => rfl
  | p :: ps, r :: rs, h => by rw [stepR_cons]; simp [stepR_len D ps rs (by simpa using h)]
  | p :: ps, [], h => by simp at h
theorem zeros_eq (n : Nat) : zeros n = List.replicate n 0 := by
  induction n with
  | zero => rfl
  | succ n ih => show 0 :: zeros n = _; rw [ih]; rfl
noncomputable def rootsN (ps : List Nat) (i : Nat) : List Nat := Nat.rec (motive := fun _ => List Nat) (zeros 64) (fun j ih => stepR (Nat.shiftRight 17179869184 j) ps ih) i

/-! ### What is owed -/
def aT (i : Nat) : T := .bin .or .u64 (.zv (Nat.succ i)) (.zv 0)
def rT (i : Nat) : T := .bin .or .u64 (.zv (Nat.succ i)) (.bin .mul .u64 (.zv 0) (.zv (Nat.add 70 (Nat.mul 6 i))))
def dT : T := .bin .shr .u64 (.zv 0) (.z 1)
noncomputable def revL (l : List T) : List T := List.rec (motive := fun _ => List T → List T) (fun a => a) (fun x _ ih a => ih (x :: a)) l []
theorem revL_eq (l : List T) : revL l = l.reverse := by
  have key : ∀ (l a : List T), (List.rec (motive := fun _ => List T → List T) (fun a => a) (fun x _ ih a => ih (x :: a)) l a : List T) = l.reverse ++ a := by
    intro l
    induction l with
    | nil => intro a; rfl
    | cons x l ih => intro a; show (List.rec (motive := fun _ => List T → List T) (fun a => a) (fun x _ ih a => ih (x :: a)) l (x :: a) : List T) = _; rw [ih]; simp
  unfold revL; rw [key]; simp
noncomputable def cVC (ps : List Nat) : Nat → List T → VC :=
  List.rec (motive := fun _ => Nat → List T → VC) (fun _ acc => .must [.p 0 (dT :: revL acc), .lt (.zv 0) (dT :: revL acc) (zvs 0 65)])
    (fun p _ ih i acc => .all 2 0 [.p 3 [aT i, aT i, .zv (Nat.add 65 (Nat.mul 6 i)), .zv (Nat.add 66 (Nat.mul 6 i))]] <| .all 2 0 [.p 3 [.zv (Nat.add 66 (Nat.mul 6 i)), aT i, .zv (Nat.add 67 (Nat.mul 6 i)), .zv (Nat.add 68 (Nat.mul 6 i))]] <|
      .all 2 0 [.p 4 [.bin .add .u64 (.zv (Nat.add 67 (Nat.mul 6 i))) (.bin .mul .u64 (.zv (Nat.add 65 (Nat.mul 6 i))) (aT i)), .z (.ofNat (Nat.mul p 4294967296)), .z (.ofNat 0), .zv (Nat.add 69 (Nat.mul 6 i)), .zv (Nat.add 70 (Nat.mul 6 i))]] <| ih (Nat.succ i) (rT i :: acc)) ps
noncomputable def repO (n : Nat) : List (Option IntKind) := Nat.rec (motive := fun _ => List (Option IntKind)) [] (fun _ ih => some .u64 :: ih) n
noncomputable def repZ (n : Nat) : List T := Nat.rec (motive := fun _ => List T) [] (fun _ ih => .z (.ofNat 0) :: ih) n
noncomputable def cvs (n : Nat) : Nat → List T := Nat.rec (motive := fun _ => Nat → List T) (fun _ => []) (fun _ ih i => .conv .u32 (.zv i) :: ih (Nat.succ i)) n
noncomputable def constVC : VC :=
  .both (.must [.p 0 (.z (.ofNat 17179869184) :: repZ 64)]) (.all 65 0 (asC (rngs 0 (repO 65)) ++ [.p 0 (zvs 0 65)]) (.br (.cmp .gtr (.zv 0) (.z (.ofNat 0))) (cVC primesN 0 []) (.must [.p 2 (cvs 64 1)])))
def Q0 (d : List D) : Prop := ∃ i, i ≤ 35 ∧ d = ivs (Nat.shiftRight 17179869184 i :: rootsN primesN i)
theorem rootsN_len (i : Nat) : (rootsN primesN i).length = 64 := by
  induction i with
  | zero => show (zeros 64).length = 64; rw [zeros_eq]; simp
  | succ i ih => show (stepR _ primesN (rootsN primesN i)).length = 64; rw [stepR_len _ _ _ (by rw [ih]; rfl)]; rfl
theorem evL_zvs {ρ : Va} {i n : Nat} {d : List D} (h : evL ρ (zvs i n) = some d) : d.length = n ∧ ∀ j (q : Int), d[j]? = some (.i q) → ρ.z[i + j]? = some q := by
  induction n generalizing i d with
  | zero => cases h; exact ⟨rfl, fun j q hq => by simp at hq⟩
  | succ n ih =>
    have h : (match (T.zv i).ev ρ, evL ρ (zvs (i + 1) n) with | some d, some l => some (d :: l) | _, _ => none) = some d := h
    cases hz : (T.zv i).ev ρ with
    | none => rw [hz] at h; cases h
    | some x =>
      cases hl : evL ρ (zvs (i + 1) n) with
      | none => rw [hz, hl] at h; cases h
      | some l =>
        rw [hz, hl] at h; cases h
        obtain ⟨h1, h2⟩ := ih hl
        refine ⟨by simp [h1], fun j q hq => ?_⟩
        cases j with
        | zero =>
          simp at hq; subst hq
          simp only [T.ev, Option.map_eq_some_iff] at hz
          obtain ⟨m, hm, e⟩ := hz
          cases e; exact hm
        | succ j => have := h2 j q (by simpa using hq); rw [show i + (j + 1) = i + 1 + j by omega]; exact this
/-- Two new numbers, of a relation. -/
theorem two {ρ : Va} {zs : List Int} {ws : List (List Value)} {Θ : Pred} {Q : List Nat → List Nat → Prop} {p n n' : Nat} {ts : List T} {ins : List Nat} (hn' : n' = n + 1) (hΘ : ∀ d, Θ p d → Qθ Q d) (h : Asms Θ (ρ.add zs ws) [.p p (ts ++ [.zv n, .zv n'])]) (hts : evL ρ ts = some (ivs ins)) (hQ : ∀ i o, Q i o → i.length = ins.length) :
    ∃ outs : List Nat, Q ins outs ∧ ∀ (j q : Nat), outs[j]? = some q → (ρ.add zs ws).z[n + j]? = some (q : Int) := by
  subst hn'
  obtain ⟨d, hd, hth⟩ := h _ (List.mem_singleton_self _)
  obtain ⟨i', o', hq, rfl⟩ := hΘ d hth
  obtain ⟨da, db, h1, h2, h3⟩ := evL_split hd
  rw [evL_mono (Va.le_add ρ zs ws) hts] at h1; cases h1
  have hil := hQ _ _ hq
  have hsplit := List.append_inj h3 (by simp [ivs, hil])
  have inj : ∀ {a b : List Nat}, ivs a = ivs b → a = b := fun {a b} e => by
    have := congrArg (List.map fun d => (D.toI d).toNat) e
    simpa [ivs, D.toI, Function.comp_def] using this
  have e1 := inj hsplit.1
  subst e1
  refine ⟨o', hq, fun j q hj => ?_⟩
  have h2' : evL (ρ.add zs ws) (zvs n 2) = some db := h2
  exact (evL_zvs h2').2 j (q : Int) (by rw [← hsplit.2]; simp [ivs, hj])
theorem add_len (ρ : Va) (zs : List Int) (ws : List (List Value)) : (ρ.add zs ws).z.length = ρ.z.length + zs.length := by simp [Va.add]
theorem ivs_cons (x : Nat) (l : List Nat) : ivs (x :: l) = Sy.D.i (x : Int) :: ivs l := rfl
theorem evL_cons {ρ : Va} {t : T} {l : List T} {d : Sy.D} {ds : List Sy.D} (h : t.ev ρ = some d) (h' : evL ρ l = some ds) : evL ρ (t :: l) = some (d :: ds) := by simp [evL, h, h']
section
variable {Θ : Pred} (h3 : ∀ d, Θ 3 d → Qθ Qmul d) (h4 : ∀ d, Θ 4 d → Qθ Qsub d)
include h3 h4
theorem cVC_holds {dg : Nat} (hD : dg < 18446744073709551616) (hD0 : 0 < dg) :
    ∀ (ps rs : List Nat) (i : Nat) (acc : List T) (done : List Nat) (ρ : Va), ps.length = rs.length → (∀ p ∈ ps, p < 65536) → (∀ r ∈ rs, r < 18446744073709551616) → ρ.z[0]? = some (dg : Int) → (∀ (j r : Nat), rs[j]? = some r → ρ.z[1 + i + j]? = some (r : Int)) → evL ρ acc.reverse = some (ivs done) →
      Θ 0 (ivs (dg / 2 :: (done ++ stepR dg ps rs))) → (∃ d, evL ρ (zvs 0 65) = some (.i (dg : Int) :: d)) → (cVC ps i acc).holds Θ ρ []
  | [], rs, i, acc, done, ρ, hl, _, _, hz0, _, hacc, hfin, ⟨d, hd⟩ => by
    have hdT : dT.ev ρ = some (.i ((dg / 2 : Nat) : Int)) := ((show Nv6 ρ (.zv 0) dg from ⟨by simp [T.ev, hz0], hD⟩).shr 1 (by decide)).1
    have hev : evL ρ (dT :: revL acc) = some (ivs (dg / 2 :: done)) := by rw [revL_eq]; exact evL_cons hdT hacc
    have hfin : Θ 0 (ivs (dg / 2 :: done)) := by
      have e : stepR dg [] rs = [] := rfl
      rw [e, List.append_nil] at hfin; exact hfin
    intro x hx
    simp only [List.mem_cons, List.not_mem_nil, or_false] at hx
    rcases hx with rfl | rfl
    · exact ⟨_, hev, hfin⟩
    · refine ⟨_, _, ((dg / 2 : Nat) : Int), (dg : Int), hev, hd, rfl, rfl, by omega, by omega⟩
  | p :: ps, [], i, acc, done, ρ, hl, _, _, _, _, _, _, _ => by simp at hl
  | p :: ps, r :: rs, i, acc, done, ρ, hl, hps, hrs, hz0, hz, hacc, hfin, hd => by
    have hr := hrs r (by simp)
    have hp := hps p (by simp)
    have n0 : Nv6 ρ (.zv 0) dg := ⟨by simp [T.ev, hz0], hD⟩
    have nr : Nv6 ρ (.zv (Nat.succ i)) r := ⟨by have := hz 0 r rfl; rw [show 1 + i + 0 = i + 1 by omega] at this; simp [T.ev, this], hr⟩
    have na : Nv6 ρ (aT i) (r ||| dg) := nr.or n0
    generalize ha : r ||| dg = a at na
    intro zs ws _ _ hA
    obtain ⟨o1, ⟨x1, y1, e1, e2⟩, k1⟩ := two (Q := Qmul) (n := 65 + 6 * i) (n' := 66 + 6 * i) (ts := [aT i, aT i]) (ins := [a, a]) (by omega) h3 hA (evL_cons na.1 (evL_cons na.1 rfl)) (fun i o ⟨x, y, e, _⟩ => by rw [e]; rfl)
    cases e1
    subst e2
    have l1 := Va.le_add ρ zs ws
    intro zs2 ws2 _ _ hA2
    have na1 : Nv6 (ρ.add zs ws) (aT i) a := ⟨ev_mono l1 na.1, na.2⟩
    have nh : Nv6 (ρ.add zs ws) (.zv (65 + 6 * i)) (a * a / 18446744073709551616) := ⟨by have := k1 0 _ rfl; simp only [Nat.add_zero] at this; simp [T.ev, this], Nat.div_lt_of_lt_mul (Nat.mul_lt_mul_of_lt_of_lt na.2 na.2)⟩
    have nl : Nv6 (ρ.add zs ws) (.zv (66 + 6 * i)) (a * a % 18446744073709551616) := ⟨by have := k1 1 _ rfl; rw [show 65 + 6 * i + 1 = 66 + 6 * i by omega] at this; simp [T.ev, this], Nat.mod_lt _ (by decide)⟩
    generalize hh : a * a / 18446744073709551616 = h at nh
    generalize hlo : a * a % 18446744073709551616 = lo at nl
    obtain ⟨o2, ⟨x2, y2, e1, e2⟩, k2⟩ := two (Q := Qmul) (n := 67 + 6 * i) (n' := 68 + 6 * i) (ts := [.zv (66 + 6 * i), aT i]) (ins := [lo, a]) (by omega) h3 hA2 (evL_cons nl.1 (evL_cons na1.1 rfl)) (fun i o ⟨x, y, e, _⟩ => by rw [e]; rfl)
    cases e1
    subst e2
    have l2 := Va.le_add (ρ.add zs ws) zs2 ws2
    intro zs3 ws3 _ _ hA3
    have na2 : Nv6 ((ρ.add zs ws).add zs2 ws2) (aT i) a := ⟨ev_mono l2 na1.1, na.2⟩
    have nh2 : Nv6 ((ρ.add zs ws).add zs2 ws2) (.zv (65 + 6 * i)) h := ⟨ev_mono l2 nh.1, nh.2⟩
    have nt : Nv6 ((ρ.add zs ws).add zs2 ws2) (.zv (67 + 6 * i)) (lo * a / 18446744073709551616) := ⟨by have := k2 0 _ rfl; simp only [Nat.add_zero] at this; simp [T.ev, this], Nat.div_lt_of_lt_mul (Nat.mul_lt_mul_of_lt_of_lt nl.2 na.2)⟩
    have nx := nt.add (nh2.mul na2)
    obtain ⟨o3, ⟨x3, y3, b3, e1, e2⟩, k3⟩ := two (Q := Qsub) (n := 69 + 6 * i) (n' := 70 + 6 * i) (ts := [.bin .add .u64 (.zv (67 + 6 * i)) (.bin .mul .u64 (.zv (65 + 6 * i)) (aT i)), .z (.ofNat (Nat.mul p 4294967296)), .z (.ofNat 0)])
      (ins := [(lo * a / 18446744073709551616 + h * a % 18446744073709551616) % 18446744073709551616, p * 4294967296, 0]) (by omega) h4 hA3 (evL_cons nx.1 (evL_cons rfl (evL_cons rfl rfl))) (fun i o ⟨x, y, z, e, _⟩ => by rw [e]; rfl)
    cases e1
    subst e2
    have l3 := Va.le_add ((ρ.add zs ws).add zs2 ws2) zs3 ws3
    have lall := (l1.trans l2).trans l3
    have hb := k3 1 _ rfl
    rw [show 69 + 6 * i + 1 = 70 + 6 * i by omega] at hb
    have nb : Nv6 (((ρ.add zs ws).add zs2 ws2).add zs3 ws3) (.zv (Nat.add 70 (Nat.mul 6 i))) (if (lo * a / 18446744073709551616 + h * a % 18446744073709551616) % 18446744073709551616 < p * 4294967296 + 0 then 1 else 0) := ⟨by
      show ((((ρ.add zs ws).add zs2 ws2).add zs3 ws3).z[70 + 6 * i]?).map Sy.D.i = _
      rw [hb]; rfl, by split <;> decide⟩
    have nr3 : Nv6 (((ρ.add zs ws).add zs2 ws2).add zs3 ws3) (.zv (Nat.succ i)) r := ⟨ev_mono lall nr.1, hr⟩
    have n03 : Nv6 (((ρ.add zs ws).add zs2 ws2).add zs3 ws3) (.zv 0) dg := ⟨ev_mono lall n0.1, hD⟩
    have nnew := nr3.or (n03.mul nb)
    have hnew : r ||| (dg * (if (lo * a / 18446744073709551616 + h * a % 18446744073709551616) % 18446744073709551616 < p * 4294967296 + 0 then 1 else 0)) % 18446744073709551616 = newR dg r p := by
      rw [newR_eq, ha, hh, hlo]
    rw [hnew] at nnew
    refine cVC_holds hD hD0 ps rs (i + 1) (rT i :: acc) (done ++ [newR dg r p]) _ (by simpa using hl) (fun q hq => hps q (List.mem_cons_of_mem _ hq)) (fun q hq => hrs q (List.mem_cons_of_mem _ hq)) (lall.1 _ _ hz0) (fun j q hj => ?_) ?_ ?_ ?_
    · have := hz (j + 1) q (by simpa using hj)
      rw [show 1 + (i + 1) + j = 1 + i + (j + 1) by omega]
      exact lall.1 _ _ this
    · rw [List.reverse_cons]
      have e : ivs (done ++ [newR dg r p]) = ivs done ++ ivs [newR dg r p] := by simp [ivs]
      rw [e]
      exact evL_append (evL_mono lall hacc) (evL_cons nnew.1 rfl)
    · rw [stepR_cons] at hfin
      rw [List.append_assoc]
      exact hfin
    · obtain ⟨d, hd⟩ := hd
      exact ⟨d, evL_mono lall hd⟩
theorem const_holds {kl : List Nat} (h0 : ∀ d, Θ 0 d ↔ Q0 d) (h2 : Θ 2 (ivs kl)) (hkl : (rootsN primesN 35).map (· % 4294967296) = kl) : constVC.holds Θ ⟨[], []⟩ [] := by
  have hrl : ∀ i, ∀ x ∈ rootsN primesN i, x < 18446744073709551616 := by
    intro i
    induction i with
    | zero =>
      intro x hx
      have hx : x ∈ zeros 64 := hx
      rw [zeros_eq] at hx
      rw [List.eq_of_mem_replicate hx]; decide
    | succ i ih =>
      have key : ∀ (ps rs : List Nat) (dg : Nat), (∀ x ∈ rs, x < 18446744073709551616) → ∀ x ∈ stepR dg ps rs, x < 18446744073709551616 := by
        intro ps
        induction ps with
        | nil => intro rs dg _ x hx; cases hx
        | cons p ps ihp =>
          intro rs dg hrs x hx
          cases rs with
          | nil => cases hx
          | cons r rs =>
            rw [stepR_cons] at hx
            rcases List.mem_cons.1 hx with rfl | hx
            · exact newR_lt p (hrs r (by simp))
            · exact ihp rs dg (fun y hy => hrs y (List.mem_cons_of_mem _ hy)) x hx
      exact key primesN (rootsN primesN i) _ ih
  refine ⟨?_, fun zs ws hzl hwl hA => ?_⟩
  · intro x hx
    rw [List.mem_singleton.1 hx]
    refine ⟨ivs (17179869184 :: rootsN primesN 0), ?_, (h0 _).2 ⟨0, by omega, rfl⟩⟩
    have : ∀ n, evL (⟨[], []⟩ : Va) (repZ n) = some (ivs (zeros n)) := by
      intro n
      induction n with
      | zero => rfl
      | succ n ih => exact evL_cons (t := .z (.ofNat 0)) rfl ih
    exact evL_cons (t := .z (.ofNat 17179869184)) rfl (this 64)
  · have hp := hA (.p 0 (zvs 0 65)) (by simp)
    obtain ⟨d, hd, hΘ⟩ := hp
    obtain ⟨i, hi, rfl⟩ := (h0 _).1 hΘ
    have hzv := (evL_zvs hd).2
    generalize hρ : (⟨[], []⟩ : Va).add zs ws = ρ at hd hzv
    have hz0 : ρ.z[0]? = some ((Nat.shiftRight 17179869184 i : Nat) : Int) := by have := hzv 0 _ rfl; simpa using this
    have hzr : ∀ (j r : Nat), (rootsN primesN i)[j]? = some r → ρ.z[1 + 0 + j]? = some (r : Int) := fun j r hj => by
      have := hzv (j + 1) (r : Int) (by rw [ivs_cons, List.getElem?_cons_succ]; simp [ivs, hj])
      rw [show 1 + 0 + j = 0 + (j + 1) by omega]; exact this
    have hsr : Nat.shiftRight 17179869184 i = 17179869184 / 2 ^ i := Nat.shiftRight_eq_div_pow _ _
    have hlt : Nat.shiftRight 17179869184 i < 18446744073709551616 := by rw [hsr]; exact Nat.lt_of_le_of_lt (Nat.div_le_self _ _) (by decide)
    have hcmp : (T.cmp .gtr (.zv 0) (.z (.ofNat 0))).ev ρ = some (.b (decide ((0 : Int) < ((Nat.shiftRight 17179869184 i : Nat) : Int)))) := by
      rw [cmp_ev (n := ((Nat.shiftRight 17179869184 i : Nat) : Int)) (m := 0) (by simp [T.ev, hz0]) rfl]; rfl
    refine ⟨fun hc => ?_, fun hc => ?_⟩
    · rw [hcmp] at hc
      have hpos : 0 < Nat.shiftRight 17179869184 i := by
        simp only [Option.some.injEq, Sy.D.b.injEq, decide_eq_true_eq] at hc; omega
      have hi35 : i ≠ 35 := by
        rintro rfl
        exact absurd hpos (by decide)
      refine cVC_holds h3 h4 hlt hpos primesN (rootsN primesN i) 0 [] [] ρ (by rw [rootsN_len]; rfl) (by decide) (hrl i) hz0 hzr rfl ?_ ⟨_, hd⟩
      refine (h0 _).2 ⟨i + 1, by omega, ?_⟩
      have e : Nat.shiftRight 17179869184 i / 2 = Nat.shiftRight 17179869184 (i + 1) := rfl
      rw [e, List.nil_append]; rfl
    · rw [hcmp] at hc
      have hnot : Nat.shiftRight 17179869184 i = 0 := by
        simp only [Option.some.injEq, Sy.D.b.injEq, decide_eq_false_iff_not] at hc; omega
      have hi35 : i = 35 := by
        rcases Nat.lt_or_ge i 35 with c | c
        · rw [hsr] at hnot
          have h1 : 2 ^ i ≤ 2 ^ 34 := Nat.pow_le_pow_right (by decide) (by omega)
          have h2 : 1 ≤ 17179869184 / 2 ^ i := (Nat.le_div_iff_mul_le (Nat.two_pow_pos i)).2 (by omega)
          omega
        · omega
      subst hi35
      intro x hx
      rw [List.mem_singleton.1 hx]
      refine ⟨ivs kl, ?_, h2⟩
      rw [← hkl]
      have key : ∀ (rs : List Nat) (n k : Nat), rs.length = n → (∀ r ∈ rs, r < 18446744073709551616) → (∀ (j r : Nat), rs[j]? = some r → ρ.z[k + j]? = some (r : Int)) → evL ρ (cvs n k) = some (ivs (rs.map (· % 4294967296))) := by
        intro rs
        induction rs with
        | nil => intro n k hn _ _; subst hn; rfl
        | cons r rs ih =>
          intro n k hn hr hz
          subst hn
          have hk := hz 0 r rfl
          refine evL_cons (t := .conv .u32 (.zv k)) ?_ (ih rs.length (k + 1) rfl (fun y hy => hr y (List.mem_cons_of_mem _ hy)) fun j q hj => ?_)
          · simp only [Nat.add_zero] at hk
            simp only [T.ev, hk, Option.map_some]
            rw [wrap_u32]
          · rw [show k + 1 + j = k + (j + 1) by omega]
            exact hz (j + 1) q (by simpa using hj)
      exact key (rootsN primesN 35) 64 1 (rootsN_len 35) (hrl 35) (fun j r hj => by have := hzr j r hj; rw [show 1 + j = 1 + 0 + j by omega]; exact this)
end
end Sha
end Go.Sy
/-! Sums. -/
namespace Go.Sy
open Go.RowKit (Below)
namespace Sha
noncomputable def constK : Res → VC
  | .val (.agg l) _ => vbind (numT .u32 l) fun ts => .must [.p 2 ts]
  | _ => .bad
def Θc (kl : List Nat) : Pred := fun i d => match i with
  | 0 => Q0 d
  | 2 => d = ivs kl
  | 3 => Qθ Qmul d
  | 4 => Qθ Qsub d
  | _ => False
theorem ivs_inj {a b : List Nat} (e : ivs a = ivs b) : a = b := by
  have := congrArg (List.map fun d => (D.toI d).toNat) e
  simpa [ivs, D.toI, Function.comp_def] using this
theorem zs_ivs {ns : List Int} {l : List Nat} (e : ns.map D.i = ivs l) : ns = zsOf l := by
  rw [← ivs_zs] at e
  have := congrArg (List.map D.toI) e
  simpa [D.toI, Function.comp_def] using this
section
variable {P : Program} {hm : P.follows .mixedOrders = true} {glob : Tr (Tr AV)} {w0 : World}
theorem const_res {fm fs : FuncId} {fnS : Func} {kl : List Nat} {n n2 f : Nat} {ls : Tr LSpec} (hg : GlobOK glob w0) (hfn : hasFn P f = true) (hfm : hasFn P fm = true) (hmul : (runX P .nil .nil n2 (.call fm [.sym .u64 (.zv 0), .sym .u64 (.zv 1)]) mulK .nil .nil stM).triv = true)
    (hf : P.funcs[fs]? = some fnS) (hname : (fnS.name == "runtime.NumGoroutine") = false) (hb : fnS.body.isNone = true) (hn : Extern.findNext fnS = none) (he : Extern.find fnS = some Go.Proofs.sub64Entry)
    (h : vcSame (runX P ((Tr.nil.set fm (some (conRel gmul 2 3))).set fs (some (conRel gsub 2 4))) glob n (.call f []) constK ls) constVC = true) (hkl : (rootsN primesN 35).map (· % 4294967296) = kl) (hkz : ∀ x ∈ kl, x < 4294967296) :
    ResOK P hm glob w0 f (constG (.agg (intsF .u32 kl))) := by
  intro con' ls' ro' args st v' ha E w xs hS hx
  unfold constG at ha
  split at ha
  · cases ha
    have hxs := denL_nil.1 hx
    subst hxs
    have hdk : ∀ E : Env, denL E (intsF .u32 kl) = some (vals .u32 kl) := fun E => by
      rw [intsF_eq]
      refine denL_of (by simp [vals]) fun i v hv => ?_
      rw [List.getElem?_map, Option.map_eq_some_iff] at hv
      obtain ⟨m, hm1, rfl⟩ := hv
      have hlt := hkz m (List.mem_of_getElem? hm1)
      exact ⟨_, by rw [den_int_of (k := .u32) hlt, sgn_nat .u32 hlt], by simp [vals, hm1]⟩
    refine ⟨_, den_agg_of (hdk E), ?_⟩
    have hg' := hg.kept hS.kept
    have hcon : ConOK P hm ((Tr.nil.set fm (some (conRel gmul 2 3))).set fs (some (conRel gsub 2 4))) glob w (Θc kl) ls :=
      conOK_at (conAt_set (rel_at (sub_spec hf hname hb hn he) (fun d h => h)) (conAt_set (rel_at (mul_spec hm hfm hmul) (fun d h => h)) conAt_nil))
    have hh : (runX P ((Tr.nil.set fm (some (conRel gmul 2 3))).set fs (some (conRel gsub 2 4))) glob n (.call f []) constK ls).holds (Θc kl) E0.va [] := by
      rw [vcSame_eq h]
      exact const_holds (Θ := Θc kl) (fun _ h => h) (fun _ h => h) (fun _ => Iff.rfl) rfl hkl
    refine (calls_of_run hm hg' hcon hh hfn).mono fun e w' ⟨r, he, ho⟩ => ?_
    subst he
    obtain ⟨v', st', E', R', _, h2, _, h4, _, h6⟩ := ho
    refine ⟨?_, Kept.below h4.kept⟩
    unfold constK at h2
    split at h2
    · rename_i l st e
      cases e
      obtain ⟨ts, hts, h2⟩ := vbind_inv h2
      obtain ⟨ys, hys, rfl⟩ := den_agg h6
      obtain ⟨ns, n1, rfl, _⟩ := numT_inv hts hys
      obtain ⟨d, hd, hΘ⟩ := h2 _ (List.mem_singleton_self _)
      rw [n1] at hd; cases hd
      have hΘ : ns.map D.i = ivs kl := hΘ
      rw [zs_ivs hΘ, vals_zs]
    · exact h2.elim
  · cases ha
end

/-! ### Sums of so many bytes -/
noncomputable def litT (l : List Nat) : List T := List.rec (motive := fun _ => List T) [] (fun x _ ih => .z (.ofNat x) :: ih) l
noncomputable def outTs (s : List T) : List T := List.rec (motive := fun _ => List T) [] (fun x _ ih => .conv .u8 (.bin .shr .u32 x (.z (.ofNat 24))) :: .conv .u8 (.bin .shr .u32 x (.z (.ofNat 16))) :: .conv .u8 (.bin .shr .u32 x (.z (.ofNat 8))) :: .conv .u8 (.bin .shr .u32 x (.z (.ofNat 0))) :: ih) s
noncomputable def pvc (n k : Nat) : List T → List T → Nat → VC :=
  Nat.rec (motive := fun _ => List T → List T → Nat → VC) (fun s _ _ => .must [.p 1 (zvs 0 n ++ outTs s)]) (fun _ ih s m nz => .all 8 0 [.p 0 (s ++ (takeL 64 m ++ zvs nz 8))] (ih (zvs nz 8) (dropL 64 m) (Nat.add nz 8))) k
noncomputable def sumVC (n : Nat) : VC := pvc n (blks n) (litT h0N) (zvs 0 n ++ litT (tailN n)) n
def Θs (kl : List Nat) (n : Nat) : Pred := fun i d => match i with
  | 0 => Pθ kl d
  | 1 => ∃ l : List Nat, l.length = n ∧ d = ivs l ++ ivs (sumN kl n l)
  | _ => False
theorem evL_lit (ρ : Va) (l : List Nat) : evL ρ (litT l) = some (ivs l) := by
  induction l with
  | nil => rfl
  | cons x l ih => exact evL_cons (t := .z (.ofNat x)) rfl ih
theorem evL_len {ρ : Va} : ∀ {ts : List T} {d : List D}, evL ρ ts = some d → d.length = ts.length
  | [], d, h => by cases h; rfl
  | t :: ts, d, h => by
    simp only [evL] at h
    cases ht : t.ev ρ with
    | none => simp [ht] at h
    | some x =>
      cases hl : evL ρ ts with
      | none => simp [ht, hl] at h
      | some l => simp [ht, hl] at h; subst h; simp [evL_len hl]
theorem evL_take {ρ : Va} : ∀ {ts : List T} {d : List D} (k : Nat), evL ρ ts = some d → evL ρ (ts.take k) = some (d.take k) ∧ evL ρ (ts.drop k) = some (d.drop k)
  | ts, d, 0, h => by simp [evL, h]
  | [], d, k + 1, h => by cases h; simp [evL]
  | t :: ts, d, k + 1, h => by
    simp only [evL] at h
    cases ht : t.ev ρ with
    | none => simp [ht] at h
    | some x =>
      cases hl : evL ρ ts with
      | none => simp [ht, hl] at h
      | some l =>
        simp [ht, hl] at h; subst h
        obtain ⟨h1, h2⟩ := evL_take k hl
        exact ⟨evL_cons ht h1, by simpa using h2⟩
theorem ivs_take (l : List Nat) (k : Nat) : (ivs l).take k = ivs (l.take k) ∧ (ivs l).drop k = ivs (l.drop k) := by simp [ivs]
theorem conv8_ev {ρ : Va} {t : T} {x : Nat} (h : Nv ρ t x) (k : Nat) (hk : k ≤ 32) : (T.conv .u8 (.bin .shr .u32 t (.z (.ofNat k)))).ev ρ = some (.i ((x >>> k % 256 : Nat) : Int)) := by
  have h1 := (h.shr k hk).1
  have h1 : (T.bin .shr .u32 t (.z (.ofNat k))).ev ρ = some (.i ((x >>> k : Nat) : Int)) := h1
  simp only [T.ev] at h1 ⊢
  rw [h1]
  simp [IntKind.wrap, IntKind.signed, IntKind.bits]
theorem outTs_ev {ρ : Va} : ∀ {ts : List T} {s : List Nat}, evL ρ ts = some (ivs s) → (∀ x ∈ s, x < 4294967296) → evL ρ (outTs ts) = some (ivs (outB s))
  | [], s, h, _ => by
    have : s = [] := by
      have := evL_len h; simp [ivs] at this; exact this
    subst this; rfl
  | t :: ts, [], h, _ => by have := evL_len h; simp [ivs] at this
  | t :: ts, x :: s, h, hs => by
    simp only [evL] at h
    cases ht : t.ev ρ with
    | none => simp [ht] at h
    | some q =>
      cases hl : evL ρ ts with
      | none => simp [ht, hl] at h
      | some l =>
        simp only [ht, hl, Option.some.injEq] at h
        rw [ivs_cons, List.cons.injEq] at h
        obtain ⟨rfl, rfl⟩ := h
        have nv : Nv ρ t x := ⟨ht, hs x (by simp)⟩
        exact evL_cons (conv8_ev nv 24 (by decide)) (evL_cons (conv8_ev nv 16 (by decide)) (evL_cons (conv8_ev nv 8 (by decide)) (evL_cons (conv8_ev nv 0 (by decide)) (outTs_ev hl fun y hy => hs y (List.mem_cons_of_mem _ hy)))))
theorem pvc_holds {kl : List Nat} {n : Nat} {l : List Nat} (hln : l.length = n) : ∀ (k : Nat) (s m : List Nat) (ts ms : List T) (nz : Nat) (ρ : Va), m.length = 64 * k → s.length = 8 → (∀ x ∈ s, x < 4294967296) → evL ρ ts = some (ivs s) → evL ρ ms = some (ivs m) → evL ρ (zvs 0 n) = some (ivs l) → outB (foldN kl k s m) = sumN kl n l → (pvc n k ts ms nz).holds (Θs kl n) ρ []
  | 0, s, m, ts, ms, nz, ρ, _, hs, hsz, hts, hms, hl, hfin => by
    intro x hx
    rw [List.mem_singleton.1 hx]
    refine ⟨_, evL_append hl (outTs_ev hts hsz), l, hln, ?_⟩
    have : outB s = sumN kl n l := hfin
    rw [this]
  | k + 1, s, m, ts, ms, nz, ρ, hm, hs, hsz, hts, hms, hl, hfin => by
    intro zs ws _ _ hA
    obtain ⟨d, hd, hΘ⟩ := hA _ (List.mem_singleton_self _)
    obtain ⟨s', l', e1, e2, e3, e4, rfl⟩ := hΘ
    have hle := Va.le_add ρ zs ws
    obtain ⟨da, db, h1, h2, h3⟩ := evL_split hd
    obtain ⟨dc, dd, h4, h5, rfl⟩ := evL_split h2
    rw [evL_mono hle hts] at h1; cases h1
    have htk := evL_take (ρ := ρ) 64 hms
    rw [takeL_eq, evL_mono hle htk.1] at h4; cases h4
    rw [(ivs_take m 64).1] at h3
    have a1 := List.append_inj h3 (by simp [ivs, hs, e1])
    have es := ivs_inj a1.1
    subst es
    have a2 := List.append_inj a1.2 (by simp [ivs, e2]; omega)
    have el := ivs_inj a2.1
    subst el
    obtain ⟨q1, q2⟩ := pressN_len (kl := kl) (l := m.take 64) e1
    rw [← a2.2] at h5
    have hdr := evL_mono hle htk.2
    rw [(ivs_take m 64).2] at hdr
    refine pvc_holds hln k (pressN kl s' (m.take 64)) (m.drop 64) (zvs nz 8) (dropL 64 ms) (Nat.add nz 8) _ (by simp; omega) q1 q2 h5 (by rw [dropL_eq]; exact hdr) (evL_mono hle hl) ?_
    rw [← hfin]
    show outB (foldN kl k _ _) = outB (foldN kl k (pressN kl s' (takeL 64 m)) (dropL 64 m))
    rw [takeL_eq, dropL_eq]
end Sha
end Go.Sy
/-! Contracts of sums. -/
namespace Go.Sy
open Go.RowKit (Below)
namespace Sha
noncomputable def cxR (glob ro : Tr (Tr AV)) : Cx := { eqm := .nil, und := .nil, size := .nil, zero := .nil, fns := .nil, glob := glob, con := .nil, ro := ro }
noncomputable def sumK (n : Nat) : Res → VC
  | .val (.agg l) _ => vbind (numT .u8 l) fun ts => .must [.p 1 (zvs 0 n ++ ts)]
  | _ => .bad
noncomputable def stSum (n : Nat) : St := ⟨0, 1, .nil, .nil, ⟨.nil, .nil, [], n, 0, 1, []⟩⟩
noncomputable def runSum (P : Program) (glob : Tr (Tr AV)) (fuel f n : Nat) (mk : Tr (Tr AV) → Tr Con) : VC :=
  putsK (symsF .u8 0 n) 0 .nil fun t => Tr.setK .nil 0 (some t) fun ro => runX P (mk ro) glob fuel (.call f [.slice (some ⟨.a 0, 0⟩) n (.u 0 0)]) (sumK n) .nil ro (stSum n)
noncomputable def mkA (fp fc : Nat) (kl : List Nat) (glob ro : Tr (Tr AV)) : Tr Con := (Tr.nil.set fp (some (conPress (cxR glob ro) kl 0))).set fc (some (conRes (constG (.agg (intsF .u32 kl)))))
noncomputable def mkB (fp : Nat) (glob ro : Tr (Tr AV)) : Tr Con := Tr.nil.set fp (some (conPressB (cxR glob ro) 0))
/-- What a sum of n bytes promises. -/
def BytesAt (P : Program) (glob : Tr (Tr AV)) (f : FuncId) (n : Nat) (F : List Nat → List Nat) : Prop :=
  ∀ (w : World) (b o c : Nat) (l : List Nat), GlobOK glob w → n ≤ c → l.length = n → (∀ m ∈ l, m < 256) → b < w.heap.size → (∀ (i m : Nat), l[i]? = some m → w.cell? ⟨b, i + o, none⟩ = some (.int .u8 (m : Int))) →
    Calls P f #[.slice (some ⟨b, o, none⟩) n c] w fun e w' => e = .returned (.agg (vals .u8 (F l)).toArray) ∧ Below w.heap.size w w'
theorem pad_len {n : Nat} {l : List Nat} (hl : l.length = n) : (l ++ tailN n).length = 64 * blks n := by
  have h1 : (tailN n).length = 9 + (119 - n % 64) % 64 := by
    show (128 :: (zeros ((119 - n % 64) % 64) ++ lenB (8 * n))).length = _
    rw [zeros_eq]; simp [lenB]; omega
  rw [List.length_append, hl, h1]
  show n + (9 + (119 - n % 64) % 64) = 64 * ((n + 9 + (119 - n % 64) % 64) / 64)
  omega
section
variable {P : Program} {hm : P.follows .mixedOrders = true} {glob : Tr (Tr AV)} {w0 : World}
theorem sum_bytes {kl : List Nat} {fuel f n : Nat} {mk : Tr (Tr AV) → Tr Con} (hfn : hasFn P f = true) (h : vcSame (runSum P glob fuel f n mk) (sumVC n) = true) (hcon : ∀ w ro, GlobOK glob w → ConOK P hm (mk ro) glob w (Θs kl n) .nil ro) : BytesAt P glob f n (sumN kl n) := by
  intro w b o c l hg hnc hl hlz hb hbc
  have h := vcSame_eq h
  unfold runSum at h
  rw [putsK_eq, Tr.setK_eq, runX_eq] at h
  generalize hro : (Tr.nil.set 0 (some (puts (symsF .u8 0 n) 0 .nil))) = ro at h
  obtain ⟨E, hE⟩ : ∃ E : Env, E = ⟨[], [c], zsOf l, [], [.pointer (some ⟨b, o, none⟩)]⟩ := ⟨_, rfl⟩
  have hz : ∀ (j m : Nat), l[j]? = some m → E.z[0 + j]? = some (m : Int) := fun j m hj => by rw [hE, Nat.zero_add]; exact zsOf_get hj
  have hS : StRel (tabs P hm (mk ro) glob .nil ro) (· < w.heap.size) w E (stSum n) w := by
    refine ⟨by rw [hE]; rfl, by rw [hE]; rfl, by rw [hE]; simp [zsOf, stSum, hl], by rw [hE]; rfl, by rw [hE]; rfl, fun k hk => hk, .refl _ _, fun k p hp => by rw [hE] at hp; simp at hp, fun k b hb => by simp [stSum] at hb, fun k b hb => by simp [stSum] at hb, fun k1 k2 b1 b2 id1 sh1 id2 sh2 h1 => by simp [stSum] at h1, fun f l hl => by simp [stSum] at hl,
      fun k b hb => by simp [stSum] at hb, fun k o ho => by simp [stSum] at ho, fun k1 k2 o1 o2 p h1 => by simp [stSum] at h1, fun k o ho => by simp [stSum] at ho, fun c hc => (by cases hc), fun k b p hb hp => by simp [stSum] at hb, fun f l hl => by simp [stSum] at hl, ⟨fun i t ht => ?_, fun c hc => (by cases hc)⟩⟩
    have ht : ro.get i = some t := ht
    rw [← hro, Tr.get_set] at ht
    by_cases e : 0 = i
    · subst e
      rw [if_pos rfl] at ht; cases ht
      exact ⟨b, o, by rw [hE]; rfl, hb, ro_bytes hl hz (fun j m hj => u8_wf (hlz _ (List.mem_of_getElem? hj))) hbc⟩
    · rw [if_neg e] at ht; simp at ht
  have hargs : denL E [.slice (some ⟨.a 0, 0⟩) n (.u 0 0)] = some [.slice (some ⟨b, o, none⟩) n c] := by
    rw [hE]; simp [denL, AV.den, aden, cden, hnc]
  have hlv : evL E.va (zvs 0 n) = some (ivs l) := zvs_ivs (ρ := E.va) hl hz
  have hh : (run (cxWith P (mk ro) glob .nil ro) fuel (.call f [.slice (some ⟨.a 0, 0⟩) n (.u 0 0)]) (stSum n) (sumK n)).holds (Θs kl n) E.va [] := by
    rw [h]
    exact pvc_holds hl (blks n) h0N (l ++ tailN n) _ _ n E.va (pad_len hl) rfl (by decide) (evL_lit _ _) (by rw [show ivs (l ++ tailN n) = ivs l ++ ivs (tailN n) by simp [ivs]]; exact evL_append hlv (evL_lit _ _)) hlv rfl
  refine (calls_of_runE (X := tabs P hm (mk ro) glob .nil ro) (cxOf_ok P hm (mk ro) hg) (cxOf_fns (hcon w ro hg)) (R := []) hS hargs hh hfn).mono fun e w' ⟨v, he, ho⟩ => ?_
  subst he
  obtain ⟨v', st', E', R', _, h2, h3, h4, _, h6⟩ := ho
  refine ⟨?_, Kept.below h4.kept⟩
  unfold sumK at h2
  split at h2
  · rename_i lo st e
    cases e
    obtain ⟨ts, hts, h2⟩ := vbind_inv h2
    obtain ⟨ys, hys, rfl⟩ := den_agg h6
    obtain ⟨ns, n1, rfl, _⟩ := numT_inv hts hys
    obtain ⟨d, hd, l2, e1, e2⟩ := h2 _ (List.mem_singleton_self _)
    rw [evL_append (evL_mono h3.va hlv) n1] at hd
    cases hd
    have a1 := List.append_inj e2 (by simp [ivs, hl, e1])
    have el := ivs_inj a1.1
    subst el
    rw [zs_ivs a1.2, vals_zs]
  · exact h2.elim
theorem mkA_ok {kl : List Nat} {fp fc n : Nat} (hkz : ∀ x ∈ kl, x < 4294967296) (hfp : hasFn P fp = true) (hp : PressSpec P fp kl) (hfc : hasFn P fc = true) (hc : ∀ w, GlobOK glob w → ResOK P hm glob w fc (constG (.agg (intsF .u32 kl)))) (w : World) (ro : Tr (Tr AV)) (hg : GlobOK glob w) : ConOK P hm (mkA fp fc kl glob ro) glob w (Θs kl n) .nil ro :=
  conOK_at (conAt_set (ConCl.at ⟨_, rfl, .inr ⟨hfc, hc w hg⟩⟩) (conAt_set (press_at (cx := cxR glob ro) (glob := glob) rfl rfl hg hfp hkz (fun {_ _ _ _ _ _ _ _ _ _ _} => hp) (fun _ h => h)) conAt_nil))
theorem mkB_ok {kl : List Nat} {fp n : Nat} (hfp : hasFn P fp = true) (hp : PressSpecB P fp kl) (w : World) (ro : Tr (Tr AV)) (hg : GlobOK glob w) : ConOK P hm (mkB fp glob ro) glob w (Θs kl n) .nil ro :=
  conOK_at (conAt_set (pressB_at (cx := cxR glob ro) (glob := glob) rfl rfl hg hfp (fun {_ _ _ _ _ _} => hp) (fun _ h => h)) conAt_nil)
/-- Bytes, one after the other. -/
noncomputable def listK (k : IntKind) (l : List Nat) (K : List AV → VC) : VC := List.rec (motive := fun _ => (List AV → VC) → VC) (fun K => K []) (fun x _ ih K => natK x fun x => ih fun r => K (.int k x :: r)) l K
theorem listK_eq (k : IntKind) (l : List Nat) (K : List AV → VC) : listK k l K = K (intsF k l) := by
  induction l generalizing K with
  | nil => rfl
  | cons x l ih => show natK x (fun x => listK k l fun r => K (.int k x :: r)) = _; rw [natK_eq, ih]; rfl
noncomputable def conSum (cx : Cx) (lens : List Nat) (F : Nat → List Nat → List Nat) : Con := fun args st K => match args with
  | [.slice (some a) n _] => vif (memN n lens && Nat.blt 0 n) <| vbind (cellsFrom cx st n a.off a.b) fun cs => vbind (cellNats cs) fun l => listK .u8 (F n l) fun vs => K (.agg vs) st
  | _ => .bad
theorem memN_mem {n : Nat} : ∀ {l : List Nat}, memN n l = true → n ∈ l
  | [], h => by cases h
  | x :: l, h => by
    have h : (Bool.rec (memN n l) true (Nat.beq x n) : Bool) = true := h
    cases e : Nat.beq x n with
    | true => rw [Nat.eq_of_beq_eq_true e]; simp
    | false => rw [e] at h; exact List.mem_cons_of_mem _ (memN_mem h)
theorem sum_at {Θ : Pred} {ls : Tr LSpec} {ro : Tr (Tr AV)} {cx : Cx} (hcx : cx.glob = glob) (hcr : cx.ro = ro) {f : FuncId} {lens : List Nat} {F : Nat → List Nat → List Nat} (hg : GlobOK glob w0) (hfn : hasFn P f = true) (hF : ∀ n ∈ lens, ∀ l, ∀ x ∈ F n l, x < 256) (hp : ∀ n ∈ lens, BytesAt P glob f n (F n)) : ConAt P hm glob w0 Θ ls ro f (conSum cx lens F) := by
  intro con args st k E R w xs hS hx hh
  have hc := cxOf_ok P hm con (ls := ls) (ro := ro) hg
  unfold conSum at hh
  split at hh
  · rename_i a n c0
    obtain ⟨hn, h0⟩ := vif_inv hh
    rw [Bool.and_eq_true, blt_iff, decide_eq_true_eq] at hn
    have hmem := memN_mem hn.1
    obtain ⟨cs, hcs, h1⟩ := vbind_inv h0
    obtain ⟨l, hl, h2⟩ := vbind_inv h1
    rw [listK_eq] at h2
    obtain ⟨x1, r1, hx1, hr1, rfl⟩ := denL_cons.1 hx
    rw [denL_nil.1 hr1]
    simp only [AV.den] at hx1
    split at hx1
    · rename_i ad cc had hcc
      split at hx1
      · rename_i hle
        cases hx1
        have hcs' : cellsFrom (tabs P hm con glob ls ro).cx st n a.off a.b = some cs := cellsFrom_cx hcx hcr hcs
        obtain ⟨ys, y1, y2, _, y4⟩ := cells_sound hc hS (b := a.b) (o := a.off) hcs' had
        obtain ⟨ea, la⟩ := aden_lt (q := n) hc hS hcs' had hn.2
        rw [cellNats_inv hl] at y1
        obtain ⟨k1, k2⟩ := bytes_lt y1
        subst k2
        obtain ⟨fn, g1, g2, g3⟩ := hasFn_inv hfn
        rw [callFunc_enter (P := P) g1 g2 g3]
        show CallsIn (FW none) 0 P f _ w _
        have hcl := hp n hmem w ad.block ad.off cc l (hg.kept hS.kept) hle (by simpa using y2) k1 la (fun i m hi => by
          have := y4 i (.int .u8 (m : Int)) (by simp [hi])
          rw [ea, add_eq] at this
          rw [Nat.add_comm]; exact this)
        rw [← ea] at hcl
        refine (callsIn_wide.2 hcl).mono fun e w' ⟨he, hb⟩ => ?_
        subst he
        refine ⟨_, st, E, R, List.prefix_rfl, h2, .refl E, hS.grown (Kept.of_below hb), .refl E st, den_agg_of ?_⟩
        rw [intsF_eq]
        refine denL_of (by simp [vals]) fun i v hv => ?_
        rw [List.getElem?_map, Option.map_eq_some_iff] at hv
        obtain ⟨m, hm1, rfl⟩ := hv
        have hlt := hF n hmem l m (List.mem_of_getElem? hm1)
        exact ⟨_, by rw [den_int_of (k := .u8) hlt, sgn_nat .u8 hlt], by simp [vals, hm1]⟩
      · cases hx1
    · cases hx1
  · exact hh.elim
theorem outB_lt : ∀ {s : List Nat}, ∀ x ∈ outB s, x < 256
  | [], x, hx => by cases hx
  | y :: s, x, hx => by
    have hx : x ∈ (y >>> 24) % 256 :: (y >>> 16) % 256 :: (y >>> 8) % 256 :: (y >>> 0) % 256 :: outB s := hx
    simp only [List.mem_cons] at hx
    rcases hx with rfl | rfl | rfl | rfl | hx
    · exact Nat.mod_lt _ (by decide)
    · exact Nat.mod_lt _ (by decide)
    · exact Nat.mod_lt _ (by decide)
    · exact Nat.mod_lt _ (by decide)
    · exact outB_lt x hx
end
end Sha
end Go.Sy
/-! Contracts of sums of bytes that are not known: what a sum comes to stands for itself. -/
namespace Go.Sy
open Go.RowKit (Below)
namespace Sha
noncomputable def arrT : List AV → Option T
  | [] => some .nila
  | .int .u8 u :: r => obind (arrT r) fun t => some (.app (.ci .u8 (.z (.ofNat u))) t)
  | .sym .u8 x :: r => obind (arrT r) fun t => some (.app (.ci .u8 x) t)
  | _ => none
theorem arrT_inv {E : Env} : ∀ {l : List AV} {t : T} {xs : List Value}, arrT l = some t → denL E l = some xs → t.ev E.va = some (.a xs) ∧ ∃ ns : List Nat, xs = vals .u8 ns ∧ ∀ n ∈ ns, n < 256
  | [], t, xs, h, hx => by cases h; rw [denL_nil.1 hx]; exact ⟨rfl, [], rfl, by simp⟩
  | v :: l, t, xs, h, hx => by
    obtain ⟨x, xs', hx1, hx2, rfl⟩ := denL_cons.1 hx
    unfold arrT at h
    split at h
    · rename_i e; cases e
    · rename_i u r e
      cases e
      obtain ⟨q, hq, h⟩ := obind_inv h
      cases h
      obtain ⟨h1, ns, rfl, h3⟩ := arrT_inv hq hx2
      obtain ⟨hu, rfl⟩ := den_int hx1
      have hu : u < 256 := hu
      have e2 : sgn .u8 u = (u : Int) := sgn_nat .u8 hu
      refine ⟨by simp [T.ev, h1, e2], u :: ns, by simp [vals, e2], fun n hn => ?_⟩
      rcases List.mem_cons.1 hn with rfl | hn
      · exact hu
      · exact h3 n hn
    · rename_i y r e
      cases e
      obtain ⟨q, hq, h⟩ := obind_inv h
      cases h
      obtain ⟨h1, ns, rfl, h3⟩ := arrT_inv hq hx2
      obtain ⟨n, hn, hw, rfl⟩ := den_sym hx1
      have hr := wf_u8 hw
      refine ⟨by simp [T.ev, h1, hn], n.toNat :: ns, by simp [vals]; omega, fun m hm => ?_⟩
      rcases List.mem_cons.1 hm with rfl | hm
      · omega
      · exact h3 m hm
    · cases h
noncomputable def selF (x : T) (n : Nat) : Nat → List AV := Nat.rec (motive := fun _ => Nat → List AV) (fun _ => []) (fun _ ih j => .sym .u8 (.sel x (.z (.ofNat j))) :: ih (Nat.succ j)) n
theorem selF_get (x : T) : ∀ (n i j : Nat), (selF x n i)[j]? = if j < n then some (.sym .u8 (.sel x (.z (.ofNat (i + j))))) else none
  | 0, i, j => by show ([] : List AV)[j]? = _; simp
  | n + 1, i, j => by
    show (AV.sym .u8 (.sel x (.z (.ofNat i))) :: selF x n (i + 1))[j]? = _
    cases j with
    | zero => simp
    | succ j => rw [List.getElem?_cons_succ, selF_get x n (i + 1) j]; simp only [Nat.add_lt_add_iff_right]; rw [show i + 1 + j = i + (j + 1) by omega]
theorem selF_len (x : T) : ∀ (n i : Nat), (selF x n i).length = n
  | 0, i => rfl
  | n + 1, i => by show (selF x n (i + 1)).length + 1 = _; rw [selF_len x n]
theorem foldN_len (kl : List Nat) : ∀ (n : Nat) (s m : List Nat), s.length = 8 → (foldN kl n s m).length = 8
  | 0, _, _, h => h
  | n + 1, _, _, h => foldN_len kl n _ _ (pressN_len h).1
theorem outB_len : ∀ (s : List Nat), (outB s).length = 4 * s.length
  | [] => rfl
  | x :: s => by
    have e : outB (x :: s) = (x >>> 24) % 256 :: (x >>> 16) % 256 :: (x >>> 8) % 256 :: (x >>> 0) % 256 :: outB s := rfl
    rw [e]; simp [outB_len s]; omega
theorem sumN_len (kl : List Nat) (n : Nat) (l : List Nat) : (sumN kl n l).length = 32 := by
  show (outB (foldN kl (blks n) h0N (l ++ tailN n))).length = 32
  rw [outB_len, foldN_len kl _ _ _ rfl]
theorem byteOf_vals (l : List Nat) : (vals .u8 l).map byteOf = l := by
  simp [vals, byteOf, Function.comp_def]
noncomputable def conSum2 (cx : Cx) (lensN lens : List Nat) : Con := fun args st K => match args with
  | [.slice (some a) n _] => vif (memN n lens && Nat.blt 0 n) <| vbind (cellsFrom cx st n a.off a.b) fun cs =>
    Option.rec (vbind (arrT cs) fun x => K (.agg (selF (.typ 0 x) 32 0)) st)
      (fun l => bif_ (memN n lensN) (listK .u8 (sumN klN n l) fun vs => K (.agg vs) st) (vbind (arrT cs) fun x => K (.agg (selF (.typ 0 x) 32 0)) st)) (cellNats cs)
  | _ => .bad
section
variable {P : Program} {hm : P.follows .mixedOrders = true} {glob : Tr (Tr AV)} {w0 : World}
theorem sum2_at {Θ : Pred} {ls : Tr LSpec} {ro : Tr (Tr AV)} {cx : Cx} (hcx : cx.glob = glob) (hcr : cx.ro = ro) {f : FuncId} {lensN lens : List Nat} (hg : GlobOK glob w0) (hfn : hasFn P f = true) (hp : ∀ n ∈ lens, BytesAt P glob f n (sumN klN n)) : ConAt P hm glob w0 Θ ls ro f (conSum2 cx lensN lens) := by
  intro con args st k E R w xs hS hx hh
  have hc := cxOf_ok P hm con (ls := ls) (ro := ro) hg
  unfold conSum2 at hh
  split at hh
  · rename_i a n c0
    obtain ⟨hn, h0⟩ := vif_inv hh
    rw [Bool.and_eq_true, blt_iff, decide_eq_true_eq] at hn
    have hmem := memN_mem hn.1
    obtain ⟨cs, hcs, h1⟩ := vbind_inv h0
    obtain ⟨x1, r1, hx1, hr1, rfl⟩ := denL_cons.1 hx
    rw [denL_nil.1 hr1]
    simp only [AV.den] at hx1
    split at hx1
    · rename_i ad cc had hcc
      split at hx1
      · rename_i hle
        cases hx1
        have hcs' : cellsFrom (tabs P hm con glob ls ro).cx st n a.off a.b = some cs := cellsFrom_cx hcx hcr hcs
        obtain ⟨ys, y1, y2, _, y4⟩ := cells_sound hc hS (b := a.b) (o := a.off) hcs' had
        obtain ⟨ea, la⟩ := aden_lt (q := n) hc hS hcs' had hn.2
        obtain ⟨fn, g1, g2, g3⟩ := hasFn_inv hfn
        rw [callFunc_enter (P := P) g1 g2 g3]
        show CallsIn (FW none) 0 P f _ w _
        have fin : ∀ (l : List Nat), ys = vals .u8 l → (∀ m ∈ l, m < 256) → ∀ (v : AV), (k v st).holds Θ E.va R → v.den E = some (.agg (vals .u8 (sumN klN n l)).toArray) → CallsIn (FW none) 0 P f [Value.slice (some ad) n cc].toArray w (retOnly (Out (tabs P hm con glob ls ro) (· < w0.heap.size) w0 Θ R E st k)) := by
          intro l hl hlz v hv hden
          subst hl
          have hcl := hp n hmem w ad.block ad.off cc l (hg.kept hS.kept) hle (by simpa [vals] using y2) hlz la (fun i m hi => by
            have := y4 i (.int .u8 (m : Int)) (by simp [vals, hi])
            rw [ea, add_eq] at this
            rw [Nat.add_comm]; exact this)
          rw [← ea] at hcl
          refine (callsIn_wide.2 hcl).mono fun e w' ⟨he, hb⟩ => ?_
          subst he
          exact ⟨v, st, E, R, List.prefix_rfl, hv, .refl E, hS.grown (Kept.of_below hb), .refl E st, hden⟩
        have sym : (vbind (arrT cs) fun x => k (.agg (selF (.typ 0 x) 32 0)) st).holds Θ E.va R → CallsIn (FW none) 0 P f [Value.slice (some ad) n cc].toArray w (retOnly (Out (tabs P hm con glob ls ro) (· < w0.heap.size) w0 Θ R E st k)) := by
          intro h
          obtain ⟨x, hx, h⟩ := vbind_inv h
          obtain ⟨e1, l, e2, e3⟩ := arrT_inv hx y1
          refine fin l e2 e3 _ h (den_agg_of ?_)
          have hll : l.length = n := by rw [e2] at y2; simpa [vals] using y2
          refine denL_of (by simp [selF_len, vals, sumN_len]) fun i v hv => ?_
          rw [selF_get] at hv
          by_cases c : i < 32
          · rw [if_pos c] at hv; cases hv
            have hi : (sumN klN n l)[i]? = some ((sumN klN n l)[i]'(by rw [sumN_len]; exact c)) := List.getElem?_eq_getElem (by rw [sumN_len]; exact c)
            have hlt : (sumN klN n l)[i]'(by rw [sumN_len]; exact c) < 256 := outB_lt _ (List.getElem_mem _)
            refine ⟨_, den_sym_of (n := (((sumN klN n l)[i]'(by rw [sumN_len]; exact c) : Nat) : Int)) ?_ (u8_wf hlt), by simp [vals, hi]⟩
            have ht : (T.typ 0 x).ev E.va = some (.a (vals .u8 (sumN klN n l))) := by
              simp only [T.ev, e1]
              show some (D.a (typI 0 ys)) = _
              rw [e2]
              show some (D.a (vals .u8 (sumN klN (vals .u8 l).length ((vals .u8 l).map byteOf)))) = _
              rw [byteOf_vals, show (vals .u8 l).length = n by simp [vals, hll]]
            show (match (T.typ 0 x).ev E.va, (T.z (.ofNat (0 + i))).ev E.va with
              | some (D.a l), some (D.i n) => if 0 ≤ n then (match l[n.toNat]? with | some (Value.int _ m) => some (D.i m) | _ => none) else none
              | _, _ => none) = _
            rw [ht]
            simp only [T.ev, Nat.zero_add]
            rw [if_pos (show (0 : Int) ≤ Int.ofNat i from Int.natCast_nonneg i)]
            have : (Int.ofNat i).toNat = i := rfl
            rw [this]
            simp [vals, hi]
          · rw [if_neg c] at hv; cases hv
        cases hcn : cellNats cs with
        | none => rw [hcn] at h1; exact sym h1
        | some l =>
          rw [hcn] at h1
          rcases bif_holds h1 with ⟨_, h1⟩ | ⟨_, h1⟩
          · rw [listK_eq] at h1
            rw [cellNats_inv hcn] at y1
            obtain ⟨k1, k2⟩ := bytes_lt y1
            refine fin l (by rw [k2]; simp [vals]) k1 _ h1 (den_agg_of ?_)
            rw [intsF_eq]
            refine denL_of (by simp [vals]) fun i v hv => ?_
            rw [List.getElem?_map, Option.map_eq_some_iff] at hv
            obtain ⟨m, hm1, rfl⟩ := hv
            have hlt : m < 256 := outB_lt m (List.mem_of_getElem? hm1)
            exact ⟨_, by rw [den_int_of (k := .u8) hlt, sgn_nat .u8 hlt], by simp [vals, hm1]⟩
          · exact sym h1
      · cases hx1
    · cases hx1
  · exact hh.elim
end
end Sha
end Go.Sy
/-! The sum of nothing. -/
namespace Go.Sy
open Go.RowKit (Below)
namespace Sha
noncomputable def stNil : St := ⟨0, 0, .nil, .nil, ⟨.nil, .nil, [], 0, 0, 0, []⟩⟩
noncomputable def runNil (P : Program) (glob : Tr (Tr AV)) (fuel f : Nat) (mk : Tr (Tr AV) → Tr Con) : VC :=
  runX P (mk .nil) glob fuel (.call f [.slice none 0 (.k 0)]) (sumK 0) .nil .nil stNil
def NilAt (P : Program) (glob : Tr (Tr AV)) (f : FuncId) : Prop :=
  ∀ w, GlobOK glob w → Calls P f #[.slice none 0 0] w fun e w' => e = .returned (.agg (vals .u8 (sumN klN 0 [])).toArray) ∧ Below w.heap.size w w'
noncomputable def conSum3 (cx : Cx) (lensN lens : List Nat) : Con := fun args st K => match args with
  | [.slice none 0 (.k 0)] => listK .u8 (sumN klN 0 []) fun vs => K (.agg vs) st
  | args => conSum2 cx lensN lens args st K
section
variable {P : Program} {hm : P.follows .mixedOrders = true} {glob : Tr (Tr AV)} {w0 : World}
theorem sum_nil {fuel f : Nat} {mk : Tr (Tr AV) → Tr Con} (hfn : hasFn P f = true) (h : vcSame (runNil P glob fuel f mk) (sumVC 0) = true) (hcon : ∀ w ro, GlobOK glob w → ConOK P hm (mk ro) glob w (Θs klN 0) .nil ro) : NilAt P glob f := by
  intro w hg
  have h := vcSame_eq h
  unfold runNil at h
  rw [runX_eq] at h
  have hS : StRel (tabs P hm (mk .nil) glob .nil .nil) (· < w.heap.size) w E0 stNil w :=
    ⟨rfl, rfl, rfl, rfl, rfl, fun _ h => h, .refl _ _, fun k p h => by simp at h, fun k b h => by simp [stNil] at h, fun k b h => by simp [stNil] at h, fun k1 k2 b1 b2 id1 sh1 id2 sh2 h => by simp [stNil] at h, fun f l h => by simp [stNil] at h,
     fun k b h => by simp [stNil] at h, fun k b h => by simp [stNil] at h, fun k1 k2 o1 o2 p h => by simp [stNil] at h, fun k o h => by simp [stNil] at h, fun c hc => (by cases hc), fun k b p h => by simp [stNil] at h, fun f l h => by simp [stNil] at h, ⟨fun i t h => by simp [tabs, cxWith] at h, fun c hc => (by cases hc)⟩⟩
  have hargs : denL E0 [.slice none 0 (.k 0)] = some [.slice none 0 0] := by simp [denL, AV.den]
  have hh : (run (cxWith P (mk .nil) glob .nil .nil) fuel (.call f [.slice none 0 (.k 0)]) stNil (sumK 0)).holds (Θs klN 0) E0.va [] := by
    rw [h]
    exact pvc_holds (l := []) rfl (blks 0) h0N ([] ++ tailN 0) _ _ 0 E0.va (pad_len rfl) rfl (by decide) (evL_lit _ _) (evL_append (da := ivs []) rfl (evL_lit _ _)) rfl rfl
  refine (calls_of_runE (X := tabs P hm (mk .nil) glob .nil .nil) (cxOf_ok P hm (mk .nil) hg) (cxOf_fns (hcon w .nil hg)) (R := []) hS hargs hh hfn).mono fun e w' ⟨v, he, ho⟩ => ?_
  subst he
  obtain ⟨v', st', E', R', _, h2, h3, h4, _, h6⟩ := ho
  refine ⟨?_, Kept.below h4.kept⟩
  unfold sumK at h2
  split at h2
  · rename_i lo st e
    cases e
    obtain ⟨ts, hts, h2⟩ := vbind_inv h2
    obtain ⟨ys, hys, rfl⟩ := den_agg h6
    obtain ⟨ns, n1, rfl, _⟩ := numT_inv hts hys
    obtain ⟨d, hd, l2, e1, e2⟩ := h2 _ (List.mem_singleton_self _)
    have hd : evL E'.va ([] ++ ts) = some d := hd
    rw [List.nil_append, n1] at hd
    cases hd
    have el : l2 = [] := List.eq_nil_of_length_eq_zero e1
    subst el
    have e2 : ns.map D.i = ivs (sumN klN 0 []) := e2
    rw [zs_ivs e2, vals_zs]
  · exact h2.elim
theorem sum3_at {Θ : Pred} {ls : Tr LSpec} {ro : Tr (Tr AV)} {cx : Cx} (hcx : cx.glob = glob) (hcr : cx.ro = ro) {f : FuncId} {lensN lens : List Nat} (hg : GlobOK glob w0) (hfn : hasFn P f = true) (hn : NilAt P glob f) (hp : ∀ n ∈ lens, BytesAt P glob f n (sumN klN n)) : ConAt P hm glob w0 Θ ls ro f (conSum3 cx lensN lens) := by
  intro con args st k E R w xs hS hx hh
  unfold conSum3 at hh
  split at hh
  · rw [listK_eq] at hh
    have hxs : xs = [.slice none 0 0] := by
      have : denL E [.slice none 0 (.k 0)] = some [.slice none 0 0] := by simp [denL, AV.den]
      rw [this] at hx; exact (Option.some.inj hx).symm
    subst hxs
    obtain ⟨fn, g1, g2, g3⟩ := hasFn_inv hfn
    rw [callFunc_enter (P := P) g1 g2 g3]
    show CallsIn (FW none) 0 P f _ w _
    refine (callsIn_wide.2 (hn w (hg.kept hS.kept))).mono fun e w' ⟨he, hb⟩ => ?_
    subst he
    refine ⟨_, st, E, R, List.prefix_rfl, hh, .refl E, hS.grown (Kept.of_below hb), .refl E st, den_agg_of ?_⟩
    rw [intsF_eq]
    refine denL_of (by simp [vals]) fun i v hv => ?_
    rw [List.getElem?_map, Option.map_eq_some_iff] at hv
    obtain ⟨m, hm1, rfl⟩ := hv
    have hlt : m < 256 := outB_lt m (List.mem_of_getElem? hm1)
    exact ⟨_, by rw [den_int_of (k := .u8) hlt, sgn_nat .u8 hlt], by simp [vals, hm1]⟩
  · exact sum2_at hcx hcr hg hfn hp con hS hx hh
/-- Sums of bytes of several numbers. -/
def BAll (P : Program) (glob : Tr (Tr AV)) (f : FuncId) (l : List Nat) : Prop := ∀ n ∈ l, BytesAt P glob f n (sumN klN n)
theorem ball_nil {f : FuncId} : BAll P glob f [] := fun n h => by cases h
theorem ball_cons {f n : FuncId} {l : List Nat} (h : BytesAt P glob f n (sumN klN n)) (t : BAll P glob f l) : BAll P glob f (n :: l) := fun m hm => by
  rcases List.mem_cons.1 hm with rfl | hm
  · exact h
  · exact t m hm
theorem ball_app {f : FuncId} {l m : List Nat} (h : BAll P glob f l) (t : BAll P glob f m) : BAll P glob f (l ++ m) := fun n hn => by
  rcases List.mem_append.1 hn with hn | hn
  · exact h n hn
  · exact t n hn
end
end Sha
end Go.Sy
/-! Tables of reservations: how many keys there are; formulas. -/
namespace Go.Sy
namespace Res
open Go.RowKit (Below)
open Go.Sy.Sha (vcSame vcSame_eq)
def tab : Sh := .agg [.i .u64, .i .u64, .i .u64, .i .u64, .i .u64, .i .u64, .i .u64, .i .u64, .i .u64, .i .u64, .i .u64, .i .u64, .i .u64, .i .u64, .i .u64, .i .u64, .i .u64, .i .i64, .i .i64]
noncomputable def eqz (i : Nat) (n : Nat) : T := .cmp .eql (.zv i) (.z (.ofNat n))
noncomputable def or2 (a b : T) : T := .not (.and (.not a) (.not b))
noncomputable def allZ : T := .and (eqz 1 0) (.and (eqz 2 0) (.and (eqz 3 0) (.and (eqz 4 0) (.and (eqz 5 0) (.and (eqz 6 0) (.and (eqz 7 0) (.and (eqz 8 0) (.and (eqz 9 0) (.and (eqz 10 0) (.and (eqz 11 0) (.and (eqz 12 0) (.and (eqz 13 0) (.and (eqz 14 0) (.and (eqz 15 0) (eqz 16 0)))))))))))))))
noncomputable def keysT : List T := zvs 1 16
noncomputable def i1 : T := .bin .add .i64 (.zv 19) (.z (.ofNat 1))
noncomputable def n1 : T := .bin .add .i64 (.zv 20) (.z (.ofNat 1))
noncomputable def meas : T := .bin .sub .i64 (.z (.ofNat 16)) (.zv 0)
noncomputable def mustV (x : T) : VC := .must [.p 0 (i1 :: x :: keysT), .lt meas (i1 :: x :: keysT) (.zv 19 :: .zv 20 :: keysT)]
noncomputable def leafV (j : Nat) : VC := .br (.cmp .neq (.zv (Nat.succ j)) (.z (.ofNat 0))) (mustV n1) (mustV (.zv 20))
noncomputable def hv (leaf : Nat → VC) : Nat → Nat → VC
  | 0, lo => leaf lo
  | f + 1, lo => .br (.cmp .lss (.zv 19) (.z (.ofNat (Nat.add lo (Nat.pow 2 f))))) (hv leaf f lo) (hv leaf f (Nat.add lo (Nat.pow 2 f)))
noncomputable def manyVC : VC :=
  .both (.must [.p 0 (.z (.ofNat 0) :: .z (.ofNat 0) :: keysT)]) (.all 2 0 (asC (rngs 19 [some .i64, some .i64]) ++ [.p 0 (.zv 19 :: .zv 20 :: keysT)])
    (.br (.cmp .lss (.zv 19) (.z (.ofNat 16))) (.need (.cmp .geq (.zv 19) (.z (.ofNat 0))) (hv leafV 4 0)) (.must [.p 1 (.zv 20 :: keysT)])))
noncomputable def manyK : Res → VC
  | .val v _ => vbind (toT v) fun p => vif (kbeq p.1 .i64) (.must [.p 1 (p.2 :: keysT)])
  | _ => .bad
noncomputable def manyLS (key : Nat) : Tr LSpec := Tr.nil.set key (some (.inv [4, 3] [] [5, 6, 7, 8, 9, 10, 11, 12, 13, 14, 15] 0 (fun _ _ => keysT) meas))

def ΘM : Pred := fun p d => match p with
  | 0 => ∃ (i n : Int) (ks : List Int), d = .i i :: .i n :: ks.map .i ∧ ks.length = 16 ∧ 0 ≤ i ∧ i ≤ 16 ∧ 0 ≤ n ∧ n ≤ i ∧ (n = 0 ↔ ∀ (j : Nat) (k : Int), (j : Int) < i → ks[j]? = some k → k = 0)
  | 1 => ∃ (n : Int) (ks : List Int), d = .i n :: ks.map .i ∧ ks.length = 16 ∧ 0 ≤ n ∧ n ≤ 16 ∧ (n = 0 ↔ ∀ (j : Nat) (k : Int), ks[j]? = some k → k = 0)
  | _ => False
theorem map_i_inj {a b : List Int} (h : a.map D.i = b.map D.i) : a = b := by
  have := congrArg (List.map D.toI) h
  simpa [D.toI, Function.comp_def] using this
theorem i64_add {n : Int} (h0 : 0 ≤ n) (h : n ≤ 16) : IntKind.i64.wrap (n + 1) = n + 1 := wf_wrap (by simp [Lit.wf, IntKind.min, IntKind.max, IntKind.signed, IntKind.bits]; omega)
theorem i64_sub {n : Int} (h0 : 0 ≤ n) (h : n ≤ 17) : IntKind.i64.wrap (16 - n) = 16 - n := wf_wrap (by simp [Lit.wf, IntKind.min, IntKind.max, IntKind.signed, IntKind.bits]; omega)
section
variable {ρ : Va} {R : List Back}
theorem hv_holds {leaf : Nat → VC} {i : Nat} (hi : (T.zv 19).ev ρ = some (.i (i : Int))) (hl : (leaf i).holds ΘM ρ R) : ∀ (f lo : Nat), lo ≤ i → i < lo + 2 ^ f → (hv leaf f lo).holds ΘM ρ R
  | 0, lo, h1, h2 => by
    have : lo = i := by simp at h2; omega
    subst this; exact hl
  | f + 1, lo, h1, h2 => by
    have e : (T.cmp .lss (.zv 19) (.z (.ofNat (lo + 2 ^ f)))).ev ρ = some (.b (decide ((i : Int) < ((lo + 2 ^ f : Nat) : Int)))) := by rw [cmp_ev hi rfl]; rfl
    refine ⟨fun h => ?_, fun h => ?_⟩
    · have h : (T.cmp .lss (.zv 19) (.z (.ofNat (lo + 2 ^ f)))).ev ρ = some (.b true) := h
      rw [e] at h
      have : (i : Int) < ((lo + 2 ^ f : Nat) : Int) := by simpa using h
      exact hv_holds hi hl f lo h1 (by omega)
    · have h : (T.cmp .lss (.zv 19) (.z (.ofNat (lo + 2 ^ f)))).ev ρ = some (.b false) := h
      rw [e] at h
      have : ¬ (i : Int) < ((lo + 2 ^ f : Nat) : Int) := by simpa using h
      exact hv_holds hi hl f (lo + 2 ^ f) (by omega) (by rw [Nat.pow_succ] at h2; omega)
theorem must_holds {ks : List Int} {i n : Int} {x : T} {m : Int} (hk : evL ρ keysT = some (ks.map .i)) (hl : ks.length = 16) (hi : (T.zv 19).ev ρ = some (.i i)) (hn : (T.zv 20).ev ρ = some (.i n)) (hx : x.ev ρ = some (.i m)) (h0 : 0 ≤ i) (h1 : i < 16) (hm0 : 0 ≤ m) (hm1 : m ≤ i + 1)
    (hz : m = 0 ↔ ∀ (j : Nat) (k : Int), (j : Int) < i + 1 → ks[j]? = some k → k = 0) : (mustV x).holds ΘM ρ R := by
  have e1 : i1.ev ρ = some (.i (i + 1)) := by
    show (T.bin .add .i64 (.zv 19) (.z (.ofNat 1))).ev ρ = _
    unfold T.ev
    rw [hi]
    show (some (IntKind.i64.wrap (i + 1))).map D.i = _
    rw [i64_add h0 (by omega)]; rfl
  have a1 : evL ρ (i1 :: x :: keysT) = some (.i (i + 1) :: .i m :: ks.map .i) := Sha.evL_cons e1 (Sha.evL_cons hx hk)
  have a2 : evL ρ (.zv 19 :: .zv 20 :: keysT) = some (.i i :: .i n :: ks.map .i) := Sha.evL_cons hi (Sha.evL_cons hn hk)
  intro a ha
  simp only [List.mem_cons, List.not_mem_nil, or_false] at ha
  rcases ha with rfl | rfl
  · exact ⟨_, a1, i + 1, m, ks, rfl, hl, by omega, by omega, hm0, hm1, hz⟩
  · refine ⟨_, _, 16 - (i + 1), 16 - i, a1, a2, ?_, ?_, by omega, by omega⟩
    · show (some (IntKind.i64.wrap (16 - (i + 1)))).map D.i = _
      rw [i64_sub (by omega) (by omega)]; rfl
    · show (some (IntKind.i64.wrap (16 - i))).map D.i = _
      rw [i64_sub (by omega) (by omega)]; rfl
theorem many_holds {zs : List Int} (hz : zs.length = 19) : manyVC.holds ΘM ⟨zs, []⟩ [] := by
  obtain ⟨ks, hks⟩ : ∃ ks, ks = (zs.drop 1).take 16 := ⟨_, rfl⟩
  have hl : ks.length = 16 := by rw [hks]; simp [hz]
  have hget : ∀ (j : Nat) (n : Int), ks[j]? = some n → zs[1 + j]? = some n := fun j n h => by
    rw [hks, List.getElem?_take] at h
    split at h
    · rw [List.getElem?_drop] at h; exact h
    · cases h
  have hk0 : evL ⟨zs, []⟩ keysT = some (ks.map .i) := by
    have := zvs_ev (ρ := ⟨zs, []⟩) (gz := ks) (i := 1) hget
    rw [hl] at this; exact this
  refine ⟨?_, ?_⟩
  · intro a ha
    simp only [List.mem_cons, List.not_mem_nil, or_false] at ha
    subst ha
    exact ⟨_, Sha.evL_cons rfl (Sha.evL_cons rfl hk0), 0, 0, ks, rfl, hl, by omega, by omega, by omega, by omega, by simp; omega⟩
  · intro gs ws hg _ hA
    generalize hρ : (⟨zs, []⟩ : Va).add gs ws = ρ at hA ⊢
    obtain ⟨d, hd, i, n, ks', rfl, hl', h0, h1, h2, h3, h4⟩ := hA (.p 0 (.zv 19 :: .zv 20 :: keysT)) (by simp)
    have hk : evL ρ keysT = some (ks.map .i) := by rw [← hρ]; exact evL_mono (Va.le_add _ _ _) hk0
    have hi : (T.zv 19).ev ρ = some (.i i) ∧ (T.zv 20).ev ρ = some (.i n) ∧ ks' = ks := by
      simp only [evL] at hd
      cases e1 : (T.zv 19).ev ρ with
      | none => simp [e1] at hd
      | some p =>
        cases e2 : (T.zv 20).ev ρ with
        | none => simp [e1, e2] at hd
        | some q =>
          rw [e1, e2, hk] at hd
          simp only [Option.some.injEq, List.cons.injEq] at hd
          exact ⟨by rw [hd.1], by rw [hd.2.1], (map_i_inj hd.2.2).symm⟩
    obtain ⟨hi, hn, rfl⟩ := hi
    have ec : (T.cmp .lss (.zv 19) (.z (.ofNat 16))).ev ρ = some (.b (decide (i < 16))) := by rw [cmp_ev hi rfl]; rfl
    refine ⟨fun h => ?_, fun h => ?_⟩
    · rw [ec] at h
      have hlt : i < 16 := by simpa using h
      refine ⟨by rw [cmp_ev hi rfl]; simp [zcm]; exact h0, ?_⟩
      obtain ⟨j, rfl⟩ := Int.eq_ofNat_of_zero_le h0
      obtain ⟨q, hq⟩ : ∃ q, ks'[j]? = some q := ⟨_, List.getElem?_eq_getElem (by omega)⟩
      have hqe : (T.zv (j + 1)).ev ρ = some (.i q) := by
        have h5 := hget j q hq
        rw [Nat.add_comm] at h5
        rw [← hρ]
        exact ev_mono (Va.le_add _ _ _) (by simp [T.ev, h5])
      refine hv_holds hi ?_ 4 0 (Nat.zero_le _) (by omega)
      have eb : (T.cmp .neq (.zv (j + 1)) (.z (.ofNat 0))).ev ρ = some (.b (decide (q ≠ 0))) := by rw [cmp_ev hqe rfl]; rfl
      refine ⟨fun hb => ?_, fun hb => ?_⟩
      · have hb : (T.cmp .neq (.zv (j + 1)) (.z (.ofNat 0))).ev ρ = some (.b true) := hb
        rw [eb] at hb
        have hq0 : q ≠ 0 := by simpa using hb
        have en : n1.ev ρ = some (.i (n + 1)) := by
          show (T.bin .add .i64 (.zv 20) (.z (.ofNat 1))).ev ρ = _
          unfold T.ev
          rw [hn]
          show (some (IntKind.i64.wrap (n + 1))).map D.i = _
          rw [i64_add h2 (by omega)]; rfl
        refine must_holds hk hl' hi hn en h0 hlt (by omega) (by omega) ⟨fun h => by omega, fun h => ?_⟩
        exact absurd (h j q (by omega) hq) hq0
      · have hb : (T.cmp .neq (.zv (j + 1)) (.z (.ofNat 0))).ev ρ = some (.b false) := hb
        rw [eb] at hb
        have hq0 : q = 0 := by simpa using hb
        refine must_holds hk hl' hi hn hn h0 hlt h2 (by omega) (h4.trans ⟨fun h u k hu huk => ?_, fun h u k hu huk => h u k (by omega) huk⟩)
        by_cases e : u = j
        · subst e; rw [hq] at huk; cases huk; exact hq0
        · exact h u k (by omega) huk
    · rw [ec] at h
      have hge : ¬ i < 16 := by simpa using h
      intro a ha
      simp only [List.mem_cons, List.not_mem_nil, or_false] at ha
      subst ha
      refine ⟨_, Sha.evL_cons hn hk, n, ks', rfl, hl', h2, by omega, h4.trans ⟨fun h u k huk => h u k ?_ huk, fun h u k _ huk => h u k huk⟩⟩
      have := (List.getElem?_eq_some_iff.1 huk).1
      omega
end
section
variable {P : Program}
def ManySpec (P : Program) (f : FuncId) : Prop := ∀ (zs : List Int) (W : World) (xs : List Value), zs.length = 19 → denL (EZ zs) (tmpls 0 [tab]) = some xs →
  Calls P f xs.toArray W fun e w' => ∃ n : Nat, n ≤ 16 ∧ e = .returned (.int .i64 n) ∧ (n = 0 ↔ ∀ j : Nat, j < 16 → zs[1 + j]? = some 0) ∧ Below W.heap.size W w'
theorem many_spec (hm : P.follows .mixedOrders = true) {n f key : Nat} (h : vcSame (runS P .nil .nil n 19 [] (.call f (tmpls 0 [tab])) manyK (manyLS key)) manyVC = true) (hfn : hasFn P f = true) : ManySpec P f := by
  intro zs W xs hz hd
  have h := vcSame_eq h
  have hh := many_holds hz
  rw [← h, ← hz] at hh
  rw [runS_eq] at hh
  refine (calls_of_runE (X := tabs P hm .nil .nil (manyLS key)) (cxOf_ok P hm .nil (fun _ _ h => by simp at h)) (cxOf_fns conOK_nil) (E := EZ zs) (R := []) (stS_rel rfl W (fun _ h => by cases h)) hd hh hfn).mono fun e w' ⟨y, he, ho⟩ => ?_
  obtain ⟨v', st', E', R', _, h2, h3, h4, _, h6⟩ := ho
  obtain ⟨p, hp, h2⟩ := vbind_inv h2
  obtain ⟨hk, h2⟩ := vif_inv h2
  obtain ⟨m, hm1, hm2, hm3⟩ := toT_inv hp (okv_of h6)
  have hy := hm3 E' y (.refl E') h6
  rw [kbeq_eq hk] at hy
  obtain ⟨d, hd', n', ks, rfl, hl, g0, g1, g2⟩ := h2 (.p 1 (p.2 :: keysT)) (by simp)
  simp only [evL] at hd'
  rw [hm1] at hd'
  cases e3 : evL E'.va keysT with
  | none => rw [e3] at hd'; cases hd'
  | some l =>
    rw [e3] at hd'
    simp only [Option.some.injEq, List.cons.injEq, D.i.injEq] at hd'
    obtain ⟨rfl, rfl⟩ := hd'
    obtain ⟨j, rfl⟩ := Int.eq_ofNat_of_zero_le g0
    have hks : ∀ (u : Nat) (k : Int), ks[u]? = some k ↔ (u < 16 ∧ zs[1 + u]? = some k) := by
      intro u k
      have e4 := (Sha.evL_zvs (i := 1) (n := 16) e3).2
      have fwd : ∀ k, ks[u]? = some k → zs[1 + u]? = some k := fun k hk => by
        have h5 := e4 u k (by simp [hk])
        have hu : u < 16 := by have := (List.getElem?_eq_some_iff.1 hk).1; omega
        obtain ⟨q, hq⟩ : ∃ q, zs[1 + u]? = some q := ⟨_, List.getElem?_eq_getElem (by omega)⟩
        have h7 : E'.va.z[1 + u]? = some q := h3.va.1 _ _ hq
        rw [h5] at h7; cases h7; exact hq
      refine ⟨fun hk => ⟨by have := (List.getElem?_eq_some_iff.1 hk).1; omega, fwd k hk⟩, fun ⟨hu, hk⟩ => ?_⟩
      obtain ⟨q, hq⟩ : ∃ q, ks[u]? = some q := ⟨_, List.getElem?_eq_getElem (by omega)⟩
      have := fwd q hq
      rw [hk] at this; cases this; exact hq
    refine ⟨j, by omega, by rw [he, hy], ?_, Kept.below h4.kept⟩
    constructor
    · intro hj u hu
      obtain ⟨q, hq⟩ : ∃ q, ks[u]? = some q := ⟨_, List.getElem?_eq_getElem (by omega)⟩
      have := g2.1 (by rw [hj]; rfl) u q hq
      subst this
      exact ((hks u 0).1 hq).2
    · intro hall
      have := g2.2 fun u k huk => by
        obtain ⟨hu, hk⟩ := (hks u k).1 huk
        rw [hall u hu] at hk; cases hk; rfl
      omega
/-- How many keys there are: none, or some. -/
noncomputable def conMany : Con := fun args st k => vbind (argT [tab] args) fun ts => brK (sbT ts allZ) st (fun st => k (.int .i64 0) st) fun st => match st with
  | ⟨n, nc, h, l, ⟨o, sh, f, nz, na, no, nm⟩⟩ => .all 1 0 [] <| natK (Nat.add nz 1) fun nz' => k (.sym .i64 (.zv nz)) ⟨n, nc, h, l, ⟨o, sh, .cmp .geq (.zv nz) (.z (.ofNat 1)) :: f, nz', na, no, nm⟩⟩
theorem allZ_ev {zs : List Int} (hz : zs.length = 19) : ∃ b, allZ.ev ⟨zs, []⟩ = some (.b b) ∧ (b = true ↔ ∀ j : Nat, j < 16 → zs[1 + j]? = some 0) := by
  match zs, hz with
  | [z0, z1, z2, z3, z4, z5, z6, z7, z8, z9, z10, z11, z12, z13, z14, z15, z16, z17, z18], _ =>
    refine ⟨decide (z1 = 0 ∧ z2 = 0 ∧ z3 = 0 ∧ z4 = 0 ∧ z5 = 0 ∧ z6 = 0 ∧ z7 = 0 ∧ z8 = 0 ∧ z9 = 0 ∧ z10 = 0 ∧ z11 = 0 ∧ z12 = 0 ∧ z13 = 0 ∧ z14 = 0 ∧ z15 = 0 ∧ z16 = 0), ?_, ?_⟩
    · simp [allZ, eqz, T.ev, zcm, Bool.decide_and]
    · rw [decide_eq_true_eq]
      constructor
      · rintro ⟨rfl, rfl, rfl, rfl, rfl, rfl, rfl, rfl, rfl, rfl, rfl, rfl, rfl, rfl, rfl, rfl⟩ j hj
        have : j = 0 ∨ j = 1 ∨ j = 2 ∨ j = 3 ∨ j = 4 ∨ j = 5 ∨ j = 6 ∨ j = 7 ∨ j = 8 ∨ j = 9 ∨ j = 10 ∨ j = 11 ∨ j = 12 ∨ j = 13 ∨ j = 14 ∨ j = 15 := by omega
        rcases this with rfl | rfl | rfl | rfl | rfl | rfl | rfl | rfl | rfl | rfl | rfl | rfl | rfl | rfl | rfl | rfl <;> rfl
      · intro h
        exact ⟨by simpa using h 0 (by omega), by simpa using h 1 (by omega), by simpa using h 2 (by omega), by simpa using h 3 (by omega), by simpa using h 4 (by omega), by simpa using h 5 (by omega), by simpa using h 6 (by omega), by simpa using h 7 (by omega), by simpa using h 8 (by omega), by simpa using h 9 (by omega), by simpa using h 10 (by omega), by simpa using h 11 (by omega), by simpa using h 12 (by omega), by simpa using h 13 (by omega), by simpa using h 14 (by omega), by simpa using h 15 (by omega)⟩
section
variable {hm : P.follows .mixedOrders = true} {glob : Tr (Tr AV)} {w0 : World} {Θ : Pred} {ls : Tr LSpec} {ro : Tr (Tr AV)}
theorem many_at {f : FuncId} (hs : ManySpec P f) (hfn : hasFn P f = true) : ConAt P hm glob w0 Θ ls ro f conMany := by
  intro con args st k E R w xs hS hx hh
  obtain ⟨ts, hts, hh⟩ := vbind_inv hh
  obtain ⟨zs, h1, h2⟩ := argT_ok hts hx
  obtain ⟨ws, hw⟩ := args_flat h2
  have hl : zs.length = 19 := fitL_len hw
  obtain ⟨fn, g1, g2, g3⟩ := hasFn_inv hfn
  rw [callFunc_enter (P := P) g1 g2 g3]
  show CallsIn (FW none) 0 P f _ w _
  refine (callsIn_wide.2 (hs zs w xs hl (tmpls_den h2 fun i _ => by simp))).mono fun e w' ⟨n, hn, he, hz, hb⟩ => ?_
  subst he
  obtain ⟨b, e1, e2⟩ := allZ_ev hl
  have hok : okF zs.length allZ = true := by rw [hl]; rfl
  obtain ⟨f', hf', hk⟩ := brK_inv hh hS.facts (sb_ev h1 hok e1)
  have hS' := (hS.grown (Kept.of_below hb)).withF hf'
  rcases hk with ⟨rfl, hk⟩ | ⟨rfl, hk⟩
  · have : n = 0 := hz.2 (e2.1 rfl)
    subst this
    exact ⟨_, st.withF f', E, R, List.prefix_rfl, hk, .refl E, hS', hp_withF E st f', rfl⟩
  · have hn0 : n ≠ 0 := fun h => by have := e2.2 (hz.1 h); cases this
    obtain ⟨sn, nc, hp', lv, o, sh, fx, nz, na, no, nm⟩ := st
    obtain ⟨t1, t2, t3, t4⟩ := Sha.growN hS' (r := [n]) (m := 1) rfl
    have hzE : ({ E with z := E.z ++ Sha.zsOf [n] } : Env).va = E.va.add (Sha.zsOf [n]) [] := by rw [Va.add_nil]; rfl
    have h5 := hk (Sha.zsOf [n]) [] rfl rfl (fun _ h => by cases h)
    rw [← hzE, natK_eq] at h5
    have hv : (T.zv nz).ev ({ E with z := E.z ++ Sha.zsOf [n] } : Env).va = some (.i (n : Int)) := by
      have := t4 0 n rfl
      simp only [Nat.add_zero] at this
      show ((E.z ++ Sha.zsOf [n])[nz]?).map D.i = _
      rw [this]; rfl
    have hf2 : FOK ({ E with z := E.z ++ Sha.zsOf [n] } : Env).va (.cmp .geq (.zv nz) (.z (.ofNat 1)) :: f') := by
      refine .cons ?_ (hf'.mono t1.va)
      rw [cmp_ev hv rfl]
      show (some (decide ((1 : Int) ≤ (n : Int)))).map D.b = _
      rw [decide_eq_true (by omega)]; rfl
    have t2' := t2.withF hf2
    refine ⟨_, _, _, R, List.prefix_rfl, h5, t1, t2', (hp_withF E _ f').trans (t3.trans (hp_withF _ _ _)), den_sym_of hv ?_⟩
    simp [Lit.wf, IntKind.min, IntKind.max, IntKind.signed, IntKind.bits]; omega
end
end
end Res
end Go.Sy
/-! Tables of reservations: which may be, who may read and write, as formulas. -/
namespace Go.Sy
namespace Res
noncomputable def geqz (i n : Nat) : T := .cmp .geq (.zv i) (.z (.ofNat n))
noncomputable def leqz (i n : Nat) : T := .cmp .leq (.zv i) (.z (.ofNat n))
noncomputable def keyH : T := (or2 (.and (eqz 18 0) (.not (eqz 1 0))) (or2 (.and (eqz 18 1) (.not (eqz 2 0))) (or2 (.and (eqz 18 2) (.not (eqz 3 0))) (or2 (.and (eqz 18 3) (.not (eqz 4 0))) (or2 (.and (eqz 18 4) (.not (eqz 5 0))) (or2 (.and (eqz 18 5) (.not (eqz 6 0))) (or2 (.and (eqz 18 6) (.not (eqz 7 0))) (or2 (.and (eqz 18 7) (.not (eqz 8 0))) (or2 (.and (eqz 18 8) (.not (eqz 9 0))) (or2 (.and (eqz 18 9) (.not (eqz 10 0))) (or2 (.and (eqz 18 10) (.not (eqz 11 0))) (or2 (.and (eqz 18 11) (.not (eqz 12 0))) (or2 (.and (eqz 18 12) (.not (eqz 13 0))) (or2 (.and (eqz 18 13) (.not (eqz 14 0))) (or2 (.and (eqz 18 14) (.not (eqz 15 0))) (.and (eqz 18 15) (.not (eqz 16 0))))))))))))))))))
noncomputable def keyW : T := (or2 (.and (eqz 19 0) (.not (eqz 1 0))) (or2 (.and (eqz 19 1) (.not (eqz 2 0))) (or2 (.and (eqz 19 2) (.not (eqz 3 0))) (or2 (.and (eqz 19 3) (.not (eqz 4 0))) (or2 (.and (eqz 19 4) (.not (eqz 5 0))) (or2 (.and (eqz 19 5) (.not (eqz 6 0))) (or2 (.and (eqz 19 6) (.not (eqz 7 0))) (or2 (.and (eqz 19 7) (.not (eqz 8 0))) (or2 (.and (eqz 19 8) (.not (eqz 9 0))) (or2 (.and (eqz 19 9) (.not (eqz 10 0))) (or2 (.and (eqz 19 10) (.not (eqz 11 0))) (or2 (.and (eqz 19 11) (.not (eqz 12 0))) (or2 (.and (eqz 19 12) (.not (eqz 13 0))) (or2 (.and (eqz 19 13) (.not (eqz 14 0))) (or2 (.and (eqz 19 14) (.not (eqz 15 0))) (.and (eqz 19 15) (.not (eqz 16 0))))))))))))))))))
noncomputable def t56p : T := or2 (eqz 17 5) (eqz 17 6)
noncomputable def t56r : T := .and (geqz 17 5) (leqz 17 6)
noncomputable def t14p : T := .and (.and (geqz 17 1) (leqz 17 6)) (.not t56p)
noncomputable def t14r : T := .and (.and (geqz 17 0) (.not (eqz 17 0))) (.and (leqz 17 6) (.not t56r))
noncomputable def fMx (t56 t14 : T) : T := or2 (.and (eqz 17 0) (eqz 18 0)) (or2 (.and t56 (.and (eqz 18 0) (.not allZ))) (.and t14 keyH))
noncomputable def whoOK : T := .and (geqz 19 0) (leqz 19 15)
noncomputable def holdsX (t5 : T) : T := or2 (.and t5 keyW) (.and (.and (.not (eqz 17 0)) (.not t5)) (.cmp .eql (.zv 18) (.zv 19)))
noncomputable def fM : T := fMx t56p t14p
noncomputable def fMr : T := fMx t56r t14r
noncomputable def t5r : T := geqz 17 5
noncomputable def fWx (t5 : T) : T := .and fM (.and whoOK (or2 (eqz 17 0) (or2 (holdsX t5) (.and (geqz 17 3) keyW))))
noncomputable def fW : T := fWx t56p
noncomputable def fWr : T := fWx t5r
noncomputable def t0135 : T := or2 (or2 (eqz 17 0) (eqz 17 1)) (or2 (eqz 17 3) (eqz 17 5))
noncomputable def fR : T := .and fM (.and whoOK (or2 t0135 fW))
noncomputable def fRr : T := .and fM (.and whoOK (or2 t0135 (or2 (holdsX t5r) (.and (geqz 17 3) keyW))))
section
variable {zs : List Int}
theorem ev_eqz {i n : Nat} {x : Int} (h : zs[i]? = some x) : (eqz i n).ev ⟨zs, []⟩ = some (.b (decide (x = (n : Int)))) := by
  unfold eqz; rw [cmp_ev (n := x) (m := (n : Int)) (by simp [T.ev, h]) rfl]; rfl
theorem ev_geqz {i n : Nat} {x : Int} (h : zs[i]? = some x) : (geqz i n).ev ⟨zs, []⟩ = some (.b (decide ((n : Int) ≤ x))) := by
  unfold geqz; rw [cmp_ev (n := x) (m := (n : Int)) (by simp [T.ev, h]) rfl]; rfl
theorem ev_leqz {i n : Nat} {x : Int} (h : zs[i]? = some x) : (leqz i n).ev ⟨zs, []⟩ = some (.b (decide (x ≤ (n : Int)))) := by
  unfold leqz; rw [cmp_ev (n := x) (m := (n : Int)) (by simp [T.ev, h]) rfl]; rfl
theorem ev_eq2 {i j : Nat} {x y : Int} (h : zs[i]? = some x) (h' : zs[j]? = some y) : (T.cmp .eql (.zv i) (.zv j)).ev ⟨zs, []⟩ = some (.b (decide (x = y))) := by
  rw [cmp_ev (n := x) (m := y) (by simp [T.ev, h]) (by simp [T.ev, h'])]; rfl
theorem ev_and {a b : T} {p q : Bool} (ha : a.ev ⟨zs, []⟩ = some (.b p)) (hb : b.ev ⟨zs, []⟩ = some (.b q)) : (T.and a b).ev ⟨zs, []⟩ = some (.b (p && q)) := by simp only [T.ev, ha, hb]
theorem ev_not {a : T} {p : Bool} (ha : a.ev ⟨zs, []⟩ = some (.b p)) : (T.not a).ev ⟨zs, []⟩ = some (.b (!p)) := by simp only [T.ev, ha]
theorem ev_or2 {a b : T} {p q : Bool} (ha : a.ev ⟨zs, []⟩ = some (.b p)) (hb : b.ev ⟨zs, []⟩ = some (.b q)) : (or2 a b).ev ⟨zs, []⟩ = some (.b (p || q)) := by
  unfold or2; rw [ev_not (ev_and (ev_not ha) (ev_not hb))]; cases p <;> cases q <;> rfl
theorem get_of {i n : Nat} (h : zs.length = n) (hi : i < n) : ∃ x, zs[i]? = some x := ⟨_, List.getElem?_eq_getElem (by omega)⟩
theorem ev_fMx {t56 t14 : T} {a b h0 tz az kh : Bool} (h1 : t56.ev ⟨zs, []⟩ = some (.b a)) (h2 : t14.ev ⟨zs, []⟩ = some (.b b)) (h3 : (eqz 18 0).ev ⟨zs, []⟩ = some (.b h0)) (h4 : (eqz 17 0).ev ⟨zs, []⟩ = some (.b tz)) (h5 : allZ.ev ⟨zs, []⟩ = some (.b az)) (h6 : keyH.ev ⟨zs, []⟩ = some (.b kh)) :
    (fMx t56 t14).ev ⟨zs, []⟩ = some (.b ((tz && h0) || ((a && (h0 && !az)) || (b && kh)))) :=
  ev_or2 (ev_and h4 h3) (ev_or2 (ev_and h1 (ev_and h3 (ev_not h5))) (ev_and h2 h6))
theorem eqM (hz : zs.length = 19 ∨ zs.length = 20) : fMr.ev ⟨zs, []⟩ = fM.ev ⟨zs, []⟩ := by
  obtain ⟨t, ht⟩ : ∃ x, zs[17]? = some x := ⟨_, List.getElem?_eq_getElem (by omega)⟩
  obtain ⟨h, hh⟩ : ∃ x, zs[18]? = some x := ⟨_, List.getElem?_eq_getElem (by omega)⟩
  obtain ⟨az, haz⟩ : ∃ b, allZ.ev ⟨zs, []⟩ = some (.b b) := okF_ev (by rcases hz with h | h <;> rw [h] <;> rfl)
  obtain ⟨kh, hkh⟩ : ∃ b, keyH.ev ⟨zs, []⟩ = some (.b b) := okF_ev (by rcases hz with h | h <;> rw [h] <;> rfl)
  have p56 : t56p.ev ⟨zs, []⟩ = some (.b (decide (t = 5) || decide (t = 6))) := ev_or2 (ev_eqz ht) (ev_eqz ht)
  have r56 : t56r.ev ⟨zs, []⟩ = some (.b (decide (5 ≤ t) && decide (t ≤ 6))) := ev_and (ev_geqz ht) (ev_leqz ht)
  have e56 : (decide (5 ≤ t) && decide (t ≤ 6)) = (decide (t = 5) || decide (t = 6)) := by rw [Bool.eq_iff_iff]; simp only [Bool.or_eq_true, Bool.and_eq_true, decide_eq_true_eq]; omega
  have p14 : t14p.ev ⟨zs, []⟩ = some (.b ((decide (1 ≤ t) && decide (t ≤ 6)) && !(decide (t = 5) || decide (t = 6)))) := ev_and (ev_and (ev_geqz ht) (ev_leqz ht)) (ev_not p56)
  have r14 : t14r.ev ⟨zs, []⟩ = some (.b ((decide (0 ≤ t) && !decide (t = 0)) && (decide (t ≤ 6) && !(decide (5 ≤ t) && decide (t ≤ 6))))) := ev_and (ev_and (ev_geqz ht) (ev_not (ev_eqz ht))) (ev_and (ev_leqz ht) (ev_not r56))
  have e14 : ((decide (0 ≤ t) && !decide (t = 0)) && (decide (t ≤ 6) && !(decide (5 ≤ t) && decide (t ≤ 6)))) = ((decide (1 ≤ t) && decide (t ≤ 6)) && !(decide (t = 5) || decide (t = 6))) := by
    rw [e56, Bool.eq_iff_iff]; simp only [Bool.and_eq_true, Bool.not_eq_true', Bool.or_eq_false_iff, decide_eq_true_eq, decide_eq_false_iff_not]; omega
  unfold fMr fM
  rw [ev_fMx r56 r14 (ev_eqz hh) (ev_eqz ht) haz hkh, ev_fMx p56 p14 (ev_eqz hh) (ev_eqz ht) haz hkh, e14, e56]
/-- With a table that may be: what hangs on the type. -/
theorem eqW (hz : zs.length = 20) : fWr.ev ⟨zs, []⟩ = fW.ev ⟨zs, []⟩ ∧ fRr.ev ⟨zs, []⟩ = fR.ev ⟨zs, []⟩ := by
  obtain ⟨t, ht⟩ : ∃ x, zs[17]? = some x := ⟨_, List.getElem?_eq_getElem (by omega)⟩
  obtain ⟨h, hh⟩ : ∃ x, zs[18]? = some x := ⟨_, List.getElem?_eq_getElem (by omega)⟩
  obtain ⟨w, hw⟩ : ∃ x, zs[19]? = some x := ⟨_, List.getElem?_eq_getElem (by omega)⟩
  obtain ⟨az, haz⟩ : ∃ b, allZ.ev ⟨zs, []⟩ = some (.b b) := okF_ev (by rw [hz]; rfl)
  obtain ⟨kh, hkh⟩ : ∃ b, keyH.ev ⟨zs, []⟩ = some (.b b) := okF_ev (by rw [hz]; rfl)
  obtain ⟨kw, hkw⟩ : ∃ b, keyW.ev ⟨zs, []⟩ = some (.b b) := okF_ev (by rw [hz]; rfl)
  have p56 : t56p.ev ⟨zs, []⟩ = some (.b (decide (t = 5) || decide (t = 6))) := ev_or2 (ev_eqz ht) (ev_eqz ht)
  have p14 : t14p.ev ⟨zs, []⟩ = some (.b ((decide (1 ≤ t) && decide (t ≤ 6)) && !(decide (t = 5) || decide (t = 6)))) := ev_and (ev_and (ev_geqz ht) (ev_leqz ht)) (ev_not p56)
  have r5 : t5r.ev ⟨zs, []⟩ = some (.b (decide (5 ≤ t))) := ev_geqz ht
  have hM : fM.ev ⟨zs, []⟩ = _ := ev_fMx p56 p14 (ev_eqz hh) (ev_eqz ht) haz hkh
  have hwho : whoOK.ev ⟨zs, []⟩ = some (.b (decide (0 ≤ w) && decide (w ≤ 15))) := ev_and (ev_geqz hw) (ev_leqz hw)
  have hold : ∀ {t5 : T} {a : Bool}, t5.ev ⟨zs, []⟩ = some (.b a) → (holdsX t5).ev ⟨zs, []⟩ = some (.b ((a && kw) || ((!decide (t = 0) && !a) && decide (h = w)))) := fun ha => ev_or2 (ev_and ha hkw) (ev_and (ev_and (ev_not (ev_eqz ht)) (ev_not ha)) (ev_eq2 hh hw))
  have hT : t0135.ev ⟨zs, []⟩ = some (.b ((decide (t = 0) || decide (t = 1)) || (decide (t = 3) || decide (t = 5)))) := ev_or2 (ev_or2 (ev_eqz ht) (ev_eqz ht)) (ev_or2 (ev_eqz ht) (ev_eqz ht))
  have h3 : (geqz 17 3).ev ⟨zs, []⟩ = some (.b (decide (3 ≤ t))) := ev_geqz ht
  have hW : ∀ {t5 : T} {a : Bool}, t5.ev ⟨zs, []⟩ = some (.b a) → (fWx t5).ev ⟨zs, []⟩ = some (.b _) := fun ha => ev_and hM (ev_and hwho (ev_or2 (ev_eqz ht) (ev_or2 (hold ha) (ev_and h3 hkw))))
  constructor
  · unfold fWr fW
    rw [hW r5, hW p56]
    congr 2
    rw [Bool.eq_iff_iff]
    cases kw <;> cases kh <;> cases az <;> simp only [Bool.or_eq_true, Bool.and_eq_true, Bool.not_eq_true', Bool.or_eq_false_iff, Bool.and_true, Bool.and_false, Bool.or_false, Bool.false_or, Bool.not_true, Bool.not_false, decide_eq_true_eq, decide_eq_false_iff_not] <;> omega
  · unfold fRr fR fW
    rw [ev_and hM (ev_and hwho (ev_or2 hT (ev_or2 (hold r5) (ev_and h3 hkw)))), ev_and hM (ev_and hwho (ev_or2 hT (hW p56)))]
    congr 2
    rw [Bool.eq_iff_iff]
    cases kw <;> cases kh <;> cases az <;> simp only [Bool.or_eq_true, Bool.and_eq_true, Bool.not_eq_true', Bool.or_eq_false_iff, Bool.and_true, Bool.and_false, Bool.or_false, Bool.false_or, Bool.not_true, Bool.not_false, decide_eq_true_eq, decide_eq_false_iff_not] <;> omega
end
theorem tree_conv {P : Program} {glob : Tr (Tr AV)} {f : FuncId} {ss : List Sh} {d a : AV} {φ φ' : T} (h : TreeSpec P glob f ss d [(φ, a)]) (he : ∀ zs : List Int, zs.length = nzOf ss → φ.ev ⟨zs, []⟩ = φ'.ev ⟨zs, []⟩) : TreeSpec P glob f ss d [(φ', a)] := by
  intro zs W xs hz hf hd hg
  refine (h zs W xs hz hf hd hg).mono fun e w' ⟨v, y, h1, h2⟩ => ⟨v, y, ?_, h2⟩
  have e := he zs hz
  rcases h1 with ⟨h3, h4⟩ | ⟨h3, h4⟩
  · exact .inl ⟨by rw [← e]; exact h3, h4⟩
  · exact .inr ⟨by rw [← e]; exact h3, h4⟩
end Res
end Go.Sy
/-! Contracts by trees of decisions. -/
namespace Go.Sy
open Go.RowKit (Below)
inductive DT where
  | leaf (v : AV)
  | node (c : T) (y n : DT)
def DT.val (ρ : Va) : DT → AV → Prop
  | .leaf a, v => v = a
  | .node c y n, v => (c.ev ρ = some (.b true) ∧ y.val ρ v) ∨ (c.ev ρ = some (.b false) ∧ n.val ρ v)
noncomputable def constW : AV → Bool
  | .bool _ => true
  | .int k u => Nat.blt u (modOf k)
  | _ => false
theorem constW_V {v : AV} (h : constW v = true) : constV v = true := by cases v <;> first | rfl | cases h
noncomputable def DT.ok (nz : Nat) : DT → Bool
  | .leaf a => constW a
  | .node c y n => okF nz c && (y.ok nz && n.ok nz)
noncomputable def andB (c d : T) : T :=
  match d with
  | .bl true => c
  | .bl false => .bl false
  | d => .and c d
noncomputable def eqV (v a : AV) : T :=
  match v, a with
  | .sym k t, .int j u => bif_ (kbeq k j) (.cmp .eql t (.z (sgn j u))) (.bl false)
  | v, a => .bl (AV.same v a)
/-- The tree yields that value. -/
noncomputable def DT.is (v : AV) : DT → T
  | .leaf a => eqV v a
  | .node c y n => Res.or2 (andB c (y.is v)) (andB (.not c) (n.is v))
theorem andB_ok {ρ : Va} {c d : T} {p q : Prop} (hc : TB ρ c p) (hd : TB ρ d q) : TB ρ (andB c d) (p ∧ q) := by
  obtain ⟨r, h1, h2⟩ := hc
  obtain ⟨s, h3, h4⟩ := hd
  unfold andB
  split
  · cases h3; exact ⟨r, h1, by rw [h2]; simp [← h4]⟩
  · cases h3; exact .bl (by simp [← h4])
  · exact ⟨r && s, by simp only [T.ev, h1, h3], by rw [Bool.and_eq_true, h2, h4]⟩
theorem or2_ok {ρ : Va} {c d : T} {p q : Prop} (hc : TB ρ c p) (hd : TB ρ d q) : TB ρ (Res.or2 c d) (p ∨ q) := by
  obtain ⟨r, h1, h2⟩ := hc
  obtain ⟨s, h3, h4⟩ := hd
  refine ⟨!(!r && !s), by simp only [Res.or2, T.ev, h1, h3], ?_⟩
  rw [← h2, ← h4]; cases r <;> cases s <;> simp
theorem eqV_ok {E : Env} {v a : AV} {y : Value} (ha : constW a = true) (hv : v.den E = some y) : ∃ r, (eqV v a).ev E.va = some (.b r) ∧ (r = true → ∀ E', a.den E' = some y) := by
  unfold eqV
  split
  · rename_i k t j u
    obtain ⟨n, hn, _, rfl⟩ := den_sym hv
    cases e : kbeq k j with
    | false => exact ⟨false, rfl, fun h => by cases h⟩
    | true =>
      rw [bif_true]
      obtain rfl := kbeq_eq e
      refine ⟨decide (n = sgn k u), by rw [cmp_ev hn rfl]; rfl, fun h E' => ?_⟩
      have h : n = sgn k u := of_decide_eq_true h
      have ha : Nat.blt u (modOf k) = true := ha
      rw [blt_iff, decide_eq_true_eq] at ha
      rw [den_int_of ha, h]
  · refine ⟨_, rfl, fun h E' => ?_⟩
    have := same_eq _ _ h
    subst this
    exact const_den (constW_V ha) hv E'
theorem DT.is_ok {zs : List Int} {E : Env} {v : AV} {y : Value} (hE : (⟨zs, []⟩ : Va).Le E.va) (hv : v.den E = some y) : ∀ {t : DT}, t.ok zs.length = true → ∃ r, (t.is v).ev E.va = some (.b r) ∧ (r = true → ∃ a, t.val ⟨zs, []⟩ a ∧ ∀ E', a.den E' = some y)
  | .leaf a, h => by
    obtain ⟨r, h1, h2⟩ := eqV_ok (a := a) h hv
    exact ⟨r, h1, fun hr => ⟨a, rfl, h2 hr⟩⟩
  | .node c y n, h => by
    have h : (okF zs.length c && (y.ok zs.length && n.ok zs.length)) = true := h
    simp only [Bool.and_eq_true] at h
    obtain ⟨s1, e1, e2⟩ := DT.is_ok hE hv h.2.1
    obtain ⟨s2, e3, e4⟩ := DT.is_ok hE hv h.2.2
    have d1 : TB E.va (y.is v) (s1 = true) := ⟨s1, e1, Iff.rfl⟩
    have d2 : TB E.va (n.is v) (s2 = true) := ⟨s2, e3, Iff.rfl⟩
    obtain ⟨b, hb⟩ := okF_ev h.1
    have dc : TB E.va c (b = true) := ⟨b, ev_mono hE hb, Iff.rfl⟩
    obtain ⟨u, u1, u2⟩ := or2_ok (andB_ok dc d1) (andB_ok (not_TB dc) d2)
    refine ⟨u, u1, fun hu => ?_⟩
    rcases u2.1 hu with ⟨h5, h6⟩ | ⟨h5, h6⟩
    · subst h5
      obtain ⟨a, a1, a2⟩ := e2 h6
      exact ⟨a, .inl ⟨hb, a1⟩, a2⟩
    · obtain ⟨a, a1, a2⟩ := e4 h6
      cases b with
      | true => exact absurd rfl h5
      | false => exact ⟨a, .inr ⟨hb, a1⟩, a2⟩
noncomputable def goD (ts : List T) (k : Kt) : DT → St → VC
  | .leaf v, st => k v st
  | .node c y n, st => brK (sbT ts c) st (fun st => goD ts k y st) (fun st => goD ts k n st)
noncomputable def conD (ss : List Sh) (t : DT) : Con := fun args st k => vbind (argT ss args) fun ts => goD ts k t st
noncomputable def isD (t : DT) : Res → VC
  | .val (.cnd c) st => brK c st (fun st => needK (t.is (.bool true)) st fun _ => .ok) (fun st => needK (t.is (.bool false)) st fun _ => .ok)
  | .val v st => needK (t.is v) st fun _ => .ok
  | _ => .bad
section
variable {P : Program}
def DSpec (P : Program) (glob : Tr (Tr AV)) (f : FuncId) (ss : List Sh) (t : DT) : Prop :=
  ∀ (zs : List Int) (W : World) (xs : List Value), zs.length = nzOf ss → FOK ⟨zs, []⟩ (facts 0 ss) → denL (EZ zs) (tmpls 0 ss) = some xs → GlobOK glob W →
    Calls P f xs.toArray W fun e w' => ∃ v y, t.val ⟨zs, []⟩ v ∧ (∀ E, v.den E = some y) ∧ e = .returned y ∧ Below W.heap.size W w'
theorem d_spec {hm : P.follows .mixedOrders = true} {con : Tr Con} {glob : Tr (Tr AV)} {n f : Nat} {ss : List Sh} {t : DT} {ls : Tr LSpec} {fs : List T} (h : (runS P con glob n (nzOf ss) fs (.call f (tmpls 0 ss)) (isD t) ls).triv = true) (hfs : subF fs (facts 0 ss) = true)
    (hok : t.ok (nzOf ss) = true) (hfn : hasFn P f = true) (hcon : ∀ w Θ, GlobOK glob w → ConOK P hm con glob w Θ ls) : DSpec P glob f ss t := by
  intro zs W xs hz hf hd hg
  have hf : FOK ⟨zs, []⟩ fs := fun c hc => hf c (subF_mem hfs c hc)
  have h := triv_holds (Θ := fun _ _ => True) (ρ := ⟨zs, []⟩) (R := []) h
  rw [← hz] at h hok
  rw [runS_eq] at h
  refine (calls_of_runE (X := tabs P hm con glob ls) (cxOf_ok P hm con hg) (cxOf_fns (hcon W (fun _ _ => True) hg)) (E := EZ zs) (R := []) (stS_rel rfl W hf) hd h hfn).mono fun e w' ⟨y, he, ho⟩ => ?_
  obtain ⟨v', st', E', R', _, h2, h3, h4, _, h6⟩ := ho
  have fin : ∀ (v : AV) (st2 : St), (needK (t.is v) st2 fun _ => .ok).holds (fun _ _ => True) E'.va R' → FOK E'.va st2.facts → v.den E' = some y → ∃ v y, t.val ⟨zs, []⟩ v ∧ (∀ E, v.den E = some y) ∧ e = .returned y ∧ Below W.heap.size W w' := by
    intro v st2 hh hf2 hv
    obtain ⟨r, e1, e2⟩ := DT.is_ok h3.va hv hok
    obtain ⟨hr, _⟩ := needK_inv hh hf2 e1
    obtain ⟨a, a1, a2⟩ := e2 hr
    exact ⟨a, y, a1, a2, he, Kept.below h4.kept⟩
  unfold isD at h2
  split at h2
  · rename_i c st e
    cases e
    obtain ⟨b, hb, rfl⟩ := den_cnd h6
    obtain ⟨f', hf', hh⟩ := brK_inv h2 h4.facts hb
    rcases hh with ⟨rfl, hh⟩ | ⟨rfl, hh⟩
    · exact fin (.bool true) _ hh (by rw [withF_facts]; exact hf') rfl
    · exact fin (.bool false) _ hh (by rw [withF_facts]; exact hf') rfl
  · rename_i v st _ e
    cases e
    exact fin _ _ h2 h4.facts h6
  · exact h2.elim
section
variable {hm : P.follows .mixedOrders = true} {glob : Tr (Tr AV)} {w0 : World} {Θ : Pred} {ls : Tr LSpec} {ro : Tr (Tr AV)}
theorem goD_inv {E : Env} {R : List Back} {ts : List T} {zs : List Int} {v : AV} {k : Kt} (hts : evL E.va ts = some (zs.map .i)) : ∀ {t : DT} {st : St}, t.ok zs.length = true → (goD ts k t st).holds Θ E.va R → FOK E.va st.facts → t.val ⟨zs, []⟩ v →
    ∃ f, FOK E.va f ∧ (k v (st.withF f)).holds Θ E.va R
  | .leaf a, st, _, h, hf, hv => by cases hv; exact ⟨st.facts, hf, by rw [withF_self]; exact h⟩
  | .node c y n, st, ho, h, hf, hv => by
    have ho : (okF zs.length c && (y.ok zs.length && n.ok zs.length)) = true := ho
    simp only [Bool.and_eq_true] at ho
    have h : (brK (sbT ts c) st (fun st => goD ts k y st) (fun st => goD ts k n st)).holds Θ E.va R := h
    rcases hv with ⟨hb, hv⟩ | ⟨hb, hv⟩
    · obtain ⟨f, hf', h⟩ := brK_inv h hf (sb_ev hts ho.1 hb)
      rcases h with ⟨_, h⟩ | ⟨e, _⟩
      · obtain ⟨g, hg, h⟩ := goD_inv hts (t := y) (st := st.withF f) ho.2.1 h (by rw [withF_facts]; exact hf') hv
        exact ⟨g, hg, by rw [withF_withF] at h; exact h⟩
      · cases e
    · obtain ⟨f, hf', h⟩ := brK_inv h hf (sb_ev hts ho.1 hb)
      rcases h with ⟨e, _⟩ | ⟨_, h⟩
      · cases e
      · obtain ⟨g, hg, h⟩ := goD_inv hts (t := n) (st := st.withF f) ho.2.2 h (by rw [withF_facts]; exact hf') hv
        exact ⟨g, hg, by rw [withF_withF] at h; exact h⟩
theorem d_at {f : FuncId} {ss : List Sh} {t : DT} (hs : DSpec P glob f ss t) (hok : t.ok (nzOf ss) = true) (hg : GlobOK glob w0) (hfn : hasFn P f = true) : ConAt P hm glob w0 Θ ls ro f (conD ss t) := by
  intro con args st k E R w xs hS hx hh
  obtain ⟨ts, hts, hh⟩ := vbind_inv hh
  obtain ⟨zs, h1, h2⟩ := argT_ok hts hx
  obtain ⟨ws, hw⟩ := args_flat h2
  have hl : zs.length = nzOf ss := fitL_len hw
  obtain ⟨fn, g1, g2, g3⟩ := hasFn_inv hfn
  rw [callFunc_enter (P := P) g1 g2 g3]
  show CallsIn (FW none) 0 P f _ w _
  refine (callsIn_wide.2 (hs zs w xs hl (factL_ok hw fun i _ => by simp) (tmpls_den h2 fun i _ => by simp) (hg.kept hS.kept))).mono fun e w' ⟨v, y, hv, hy, he, hb⟩ => ?_
  subst he
  obtain ⟨f', hf', hk⟩ := goD_inv (k := k) h1 (by rw [hl]; exact hok) hh hS.facts hv
  exact ⟨v, st.withF f', E, R, List.prefix_rfl, hk, .refl E, (hS.grown (Kept.of_below hb)).withF hf', hp_withF E st f', hy E⟩
/-- One of two trees, by the arguments. -/
noncomputable def conD2 (g : List AV → Bool) (ss : List Sh) (t u : DT) : Con := fun args st k => Bool.rec (conD ss u args st k) (conD ss t args st k) (g args)
theorem d2_at {f : FuncId} {g : List AV → Bool} {ss : List Sh} {t u : DT} (h1 : ConAt P hm glob w0 Θ ls ro f (conD ss t)) (h2 : ConAt P hm glob w0 Θ ls ro f (conD ss u)) : ConAt P hm glob w0 Θ ls ro f (conD2 g ss t u) := by
  intro con args st k E R w xs hS hx hh
  unfold conD2 at hh
  cases e : g args with
  | true => rw [e] at hh; exact h1 con hS hx hh
  | false => rw [e] at hh; exact h2 con hS hx hh
end
end
namespace Uu
open Res (or2)
/-! ### Lines of generations -/
def line : Sh := .agg [.i .u64, .i .u64, .i .u64, .i .u64]
noncomputable def z0 (i : Nat) : T := .cmp .eql (.zv i) (.z (.ofNat 0))
noncomputable def ne0 (i : Nat) : T := .not (z0 i)
noncomputable def eqv (i j : Nat) : T := .cmp .eql (.zv i) (.zv j)
noncomputable def bo (b : Bool) : DT := .leaf (.bool b)
noncomputable def iv (n : Nat) : DT := .leaf (.int .i64 n)
noncomputable def pairF (i j : Nat) : T := .and (ne0 i) (eqv i j)
noncomputable def pairG (i j : Nat) : T := .and (ne0 i) (.and (ne0 j) (eqv i j))
noncomputable def twiceD : DT := .node (pairG 1 2) (bo true) (.node (pairG 1 3) (bo true) (.node (pairG 2 3) (bo true) (.node (pairF 1 0) (bo true) (.node (pairF 2 0) (bo true) (.node (pairF 3 0) (bo true) (bo false))))))
noncomputable def shF (i j : Nat) : T := or2 (pairG (i+1) (j+1)) (or2 (pairG (i+1) (j+2)) (or2 (pairG (i+1) (j+3)) (or2 (pairG (i+2) (j+1)) (or2 (pairG (i+2) (j+2)) (or2 (pairG (i+2) (j+3)) (or2 (pairG (i+3) (j+1)) (or2 (pairG (i+3) (j+2)) (pairG (i+3) (j+3)))))))))
noncomputable def elD (x l : Nat) (y n : DT) : DT := .node (pairF (l+1) x) y (.node (pairF (l+2) x) y (.node (pairF (l+3) x) y n))
noncomputable def cmpD (sh : T) : DT := .node (z0 0) (.node (z0 4) (iv 1) (iv 2)) (.node (z0 4) (iv 3) (.node (eqv 0 4) (iv 4) (elD 0 4 (iv 5) (elD 4 0 (iv 6) (.node sh (iv 7) (iv 8))))))
noncomputable def is (n : Nat) : T := .cmp .eql (.zv 0) (.z (.ofNat n))
noncomputable def turnD : DT := .node (is 1) (iv 1) (.node (is 2) (iv 3) (.node (is 3) (iv 2) (.node (is 4) (iv 4) (.node (is 5) (iv 6) (.node (is 6) (iv 5) (.node (is 7) (iv 7) (.node (is 8) (iv 8) (iv 0))))))))
noncomputable def firstLess : List AV → Bool
  | [.agg (.sym _ (.zv i) :: _), .agg (.sym _ (.zv j) :: _)] => Nat.blt i j
  | _ => true
noncomputable def conTurn : Con := fun args st k => match args with
  | [.int .i64 u] => vbind (ofInt .i64 (turnZ (sgn .i64 u))) fun v => k v st
  | [.sym .i64 t] => k (.sym .i64 (.sel (.typ 1 (.ci .i64 t)) (.z (.ofNat 0)))) st
  | _ => .bad
section
variable {P : Program}
def TurnSpec (P : Program) (f : FuncId) : Prop := ∀ (n : Int) (W : World), (Lit.int .i64 n).wf = true → Calls P f #[.int .i64 n] W fun e w' => e = .returned (.int .i64 (turnZ n)) ∧ Below W.heap.size W w'
theorem turnZ_wf (n : Int) : (Lit.int .i64 (turnZ n)).wf = true := by
  unfold turnZ
  repeat' split
  all_goals decide
theorem is_ev {n : Int} {m : Nat} {b : Bool} (h : (is m).ev ⟨[n], []⟩ = some (.b b)) : b = decide (n = (m : Int)) := by
  have : (is m).ev ⟨[n], []⟩ = some (.b (decide (n = (m : Int)))) := by unfold is; rw [cmp_ev (n := n) (m := (m : Int)) (by simp [T.ev]) rfl]; rfl
  rw [this] at h; cases h; rfl
theorem turn_spec {f : FuncId} (h : DSpec P .nil f [.one (.i .i64)] turnD) : TurnSpec P f := by
  intro n W hw
  have hr := wf_range hw
  have := h [n] W [.int .i64 n] rfl (by
    intro t ht
    have ht : t ∈ [T.cmp .geq (.zv 0) (.z (minOf .i64)), T.cmp .leq (.zv 0) (.z (maxOf .i64))] := ht
    simp only [List.mem_cons, List.not_mem_nil, or_false] at ht
    rcases ht with rfl | rfl
    · rw [cmp_ev (n := n) (by simp [T.ev]) rfl]; simp [zcm, hr.1]
    · rw [cmp_ev (n := n) (by simp [T.ev]) rfl]; simp [zcm, hr.2]) (by
    show denL (EZ [n]) [.sym .i64 (.zv 0)] = _
    exact denL_cons.2 ⟨_, _, den_sym_of (by simp [T.ev, Env.va]) hw, rfl, rfl⟩) (globOK_nil W)
  refine this.mono fun e w' ⟨v, y, hv, hy, he, hb⟩ => ⟨?_, hb⟩
  have key : ∀ {m : Nat} {yv : Nat} {rest : DT}, (DT.node (is m) (iv yv) rest).val ⟨[n], []⟩ v → (n = (m : Int) ∧ v = .int .i64 yv) ∨ (n ≠ (m : Int) ∧ rest.val ⟨[n], []⟩ v) := by
    intro m yv rest h
    rcases h with ⟨h1, h2⟩ | ⟨h1, h2⟩
    · exact .inl ⟨by have := is_ev h1; simpa using this.symm, h2⟩
    · exact .inr ⟨by have := is_ev h1; simpa using this.symm, h2⟩
  have fin : ∀ {yv : Nat}, v = .int .i64 yv → yv < 9 → turnZ n = (yv : Int) → e = .returned (.int .i64 (turnZ n)) := by
    intro yv h1 h2 h3
    have := hy E0
    rw [h1, den_i64 (by omega)] at this
    cases this
    rw [he, h3]
  rcases key hv with ⟨a, b⟩ | ⟨a1, hv⟩
  · exact fin b (by decide) (by rw [a]; rfl)
  rcases key hv with ⟨a, b⟩ | ⟨a2, hv⟩
  · exact fin b (by decide) (by rw [a]; rfl)
  rcases key hv with ⟨a, b⟩ | ⟨a3, hv⟩
  · exact fin b (by decide) (by rw [a]; rfl)
  rcases key hv with ⟨a, b⟩ | ⟨a4, hv⟩
  · exact fin b (by decide) (by rw [a]; rfl)
  rcases key hv with ⟨a, b⟩ | ⟨a5, hv⟩
  · exact fin b (by decide) (by rw [a]; rfl)
  rcases key hv with ⟨a, b⟩ | ⟨a6, hv⟩
  · exact fin b (by decide) (by rw [a]; rfl)
  rcases key hv with ⟨a, b⟩ | ⟨a7, hv⟩
  · exact fin b (by decide) (by rw [a]; rfl)
  rcases key hv with ⟨a, b⟩ | ⟨a8, hv⟩
  · exact fin b (by decide) (by rw [a]; rfl)
  · refine fin (yv := 0) hv (by decide) ?_
    unfold turnZ
    rw [if_neg (show n ≠ 1 from a1), if_neg (show n ≠ 2 from a2), if_neg (show n ≠ 3 from a3), if_neg (show n ≠ 4 from a4), if_neg (show n ≠ 5 from a5), if_neg (show n ≠ 6 from a6), if_neg (show n ≠ 7 from a7), if_neg (show n ≠ 8 from a8)]; rfl
section
variable {hm : P.follows .mixedOrders = true} {glob : Tr (Tr AV)} {w0 : World} {Θ : Pred} {ls : Tr LSpec} {ro : Tr (Tr AV)}
theorem turn_at {f : FuncId} (hs : TurnSpec P f) (hfn : hasFn P f = true) : ConAt P hm glob w0 Θ ls ro f conTurn := by
  intro con args st k E R w xs hS hx hh
  obtain ⟨fn, g1, g2, g3⟩ := hasFn_inv hfn
  rw [callFunc_enter (P := P) g1 g2 g3]
  show CallsIn (FW none) 0 P f _ w _
  have fin : ∀ (n : Int) (v : AV), (Lit.int .i64 n).wf = true → xs = [.int .i64 n] → (k v st).holds Θ E.va R → v.den E = some (.int .i64 (turnZ n)) → CallsIn (FW none) 0 P f xs.toArray w (retOnly (Out (tabs P hm con glob ls ro) (· < w0.heap.size) w0 Θ R E st k)) := by
    intro n v hw he hk hv
    subst he
    refine (callsIn_wide.2 (hs n w hw)).mono fun e w' ⟨he, hb⟩ => ?_
    subst he
    exact ⟨v, st, E, R, List.prefix_rfl, hk, .refl E, hS.grown (Kept.of_below hb), .refl E st, hv⟩
  unfold conTurn at hh
  split at hh
  · rename_i u
    obtain ⟨v, hv, hk⟩ := vbind_inv hh
    obtain ⟨x, xs', h1, h2, rfl⟩ := denL_cons.1 hx
    obtain ⟨hu, rfl⟩ := den_int h1
    refine fin _ v (sgn_wf .i64 hu) (by rw [denL_nil.1 h2]) hk ?_
    obtain ⟨e, hv⟩ := bif_some hv
    cases hv
    rw [ieq_eq, decide_eq_true_eq] at e
    rw [den_int_of (toU_lt _ (modOf_pos .i64) _), e]
  · rename_i t
    obtain ⟨x, xs', h1, h2, rfl⟩ := denL_cons.1 hx
    obtain ⟨n, hn, hw, rfl⟩ := den_sym h1
    refine fin n _ hw (by rw [denL_nil.1 h2]) hh (den_sym_of ?_ (turnZ_wf n))
    have e1 : (T.typ 1 (.ci .i64 t)).ev E.va = some (.a [.int .i64 (turnZ n)]) := by
      simp only [T.ev, hn]; rfl
    unfold T.ev
    rw [e1]
    rfl
  · exact hh.elim
end
end
end Uu
end Go.Sy
/-! Trees of decisions, of structs with truth values that are not known; what may be known of a node. -/
namespace Go.Sy
open Go.RowKit (Below)
noncomputable def detK : List AV → St → (List AV → St → VC) → VC
  | [], st, k => k [] st
  | v :: r, st, k => match v with
    | .cnd c => brK c st (fun st => detK r st fun l st => k (.bool true :: l) st) (fun st => detK r st fun l st => k (.bool false :: l) st)
    | v => detK r st fun l st => k (v :: l) st
noncomputable def conDB (ss : List Sh) (t : DT) : Con := fun args st k => match args with
  | [.agg l] => detK l st fun l st => conD ss t [.agg l] st k
  | _ => .bad
theorem detK_inv {Θ : Pred} {E : Env} {R : List Back} : ∀ {l : List AV} {st : St} {k : List AV → St → VC} {xs : List Value}, (detK l st k).holds Θ E.va R → FOK E.va st.facts → denL E l = some xs →
    ∃ l' f, FOK E.va f ∧ (k l' (st.withF f)).holds Θ E.va R ∧ denL E l' = some xs
  | [], st, k, xs, h, hf, hx => ⟨[], st.facts, hf, by rw [withF_self]; exact h, hx⟩
  | v :: r, st, k, xs, h, hf, hx => by
    obtain ⟨x, xs', hx1, hx2, rfl⟩ := denL_cons.1 hx
    have plain : (detK r st fun l st => k (v :: l) st).holds Θ E.va R → ∃ l' f, FOK E.va f ∧ (k l' (st.withF f)).holds Θ E.va R ∧ denL E l' = some (x :: xs') := fun h => by
      obtain ⟨l', f, h1, h2, h3⟩ := detK_inv h hf hx2
      exact ⟨v :: l', f, h1, h2, denL_cons.2 ⟨_, _, hx1, h3, rfl⟩⟩
    cases v with
    | cnd c =>
      obtain ⟨b, hc, rfl⟩ := den_cnd hx1
      have h : (brK c st (fun st => detK r st fun l st => k (.bool true :: l) st) (fun st => detK r st fun l st => k (.bool false :: l) st)).holds Θ E.va R := h
      obtain ⟨f0, hf0, h⟩ := brK_inv h hf hc
      rcases h with ⟨rfl, h⟩ | ⟨rfl, h⟩
      · obtain ⟨l', f, h1, h2, h3⟩ := detK_inv h (by rw [withF_facts]; exact hf0) hx2
        rw [withF_withF] at h2
        exact ⟨_, f, h1, h2, denL_cons.2 ⟨_, _, rfl, h3, rfl⟩⟩
      · obtain ⟨l', f, h1, h2, h3⟩ := detK_inv h (by rw [withF_facts]; exact hf0) hx2
        rw [withF_withF] at h2
        exact ⟨_, f, h1, h2, denL_cons.2 ⟨_, _, rfl, h3, rfl⟩⟩
    | _ => exact plain h
section
variable {P : Program} {hm : P.follows .mixedOrders = true} {glob : Tr (Tr AV)} {w0 : World} {Θ : Pred} {ls : Tr LSpec} {ro : Tr (Tr AV)}
theorem db_at {f : FuncId} {ss : List Sh} {t : DT} (h : ConAt P hm glob w0 Θ ls ro f (conD ss t)) : ConAt P hm glob w0 Θ ls ro f (conDB ss t) := by
  intro con args st k E R w xs hS hx hh
  unfold conDB at hh
  split at hh
  · rename_i l
    obtain ⟨x, xs', h1, h2, rfl⟩ := denL_cons.1 hx
    obtain ⟨ys, hys, rfl⟩ := den_agg h1
    obtain ⟨l', f', hf', hk, hl⟩ := detK_inv hh hS.facts hys
    have hx' : denL E [.agg l'] = some (.agg ys.toArray :: xs') := denL_cons.2 ⟨_, _, den_agg_of hl, h2, rfl⟩
    refine (h con (hS.withF hf') hx' hk).mono fun v w' ⟨v', st', E', R', g1, g2, g3, g4, g5, g6⟩ => ?_
    exact ⟨v', st', E', R', g1, g2, g3, g4, (hp_withF E st f').trans g5, g6⟩
  · exact hh.elim
end
namespace Su
open Res (or2)
def supr : Sh := .agg [.i .i64, .b, .i .u64, .i .u64, .i .u64, .i .u64, .i .u64]
noncomputable def fS : T := .and (.and (.cmp .geq (.zv 0) (.z (.ofNat 2))) (.cmp .leq (.zv 0) (.z (.ofNat 4)))) (or2 (.cmp .eql (.zv 3) (.z (.ofNat 0))) (.not (.cmp .eql (.zv 3) (.zv 2))))
noncomputable def mayD : DT := .node fS (.leaf (.bool true)) (.leaf (.bool false))
end Su
end Go.Sy
/-! Contracts of calls from states that are written out: a long run in parts. -/
namespace Go.Sy
noncomputable def sameV : AV → AV → Bool
  | .tuple a, .tuple b => sameL a b
  | a, b => AV.same a b
theorem sameV_eq {a b : AV} (h : sameV a b = true) : a = b := by
  unfold sameV at h
  split at h
  · rw [sameL_eq h]
  · exact same_eq _ _ h
noncomputable def blkB (a b : Blk) : Bool := blkSame (some a) (some b)
noncomputable def obB (a b : Ob) : Bool := obSame (some a) (some b)
noncomputable def nilB {α : Type} : List α → List α → Bool
  | [], [] => true
  | _, _ => false
theorem nilB_eq {α : Type} {a b : List α} (h : nilB a b = true) : a = b := by
  unfold nilB at h
  split at h
  · rfl
  · cases h
noncomputable def stEq (s t : St) : Bool :=
  Nat.beq s.n t.n && (Nat.beq s.nc t.nc && (Nat.beq s.x.nz t.x.nz && (Nat.beq s.x.na t.x.na && (Nat.beq s.x.no t.x.no && (trSame blkB s.heap t.heap && (trSame leqL s.live t.live && (trSame obB s.x.objs t.x.objs && (trSame (trSame AV.same) s.x.sh t.x.sh && (nilB s.x.facts t.x.facts && nilB s.x.nm t.x.nm)))))))))
theorem stEq_eq {s t : St} (h : stEq s t = true) : s = t := by
  obtain ⟨n, nc, hp, lv, ⟨ob, sh, f, nz, na, no, nm⟩⟩ := s
  obtain ⟨n', nc', hp', lv', ⟨ob', sh', f', nz', na', no', nm'⟩⟩ := t
  simp only [stEq, Bool.and_eq_true, beq_iff, decide_eq_true_eq] at h
  obtain ⟨h1, h2, h3, h4, h5, h6, h7, h8, h9, h10, h11⟩ := h
  have g6 := trSame_eq (fun _ _ h => Option.some.inj (blkSame_eq h)) h6
  have g7 := trSame_eq (fun _ _ h => leqL_iff h) h7
  have g8 := trSame_eq (fun _ _ h => Option.some.inj (obSame_eq h)) h8
  have g9 := trSame_eq (fun _ _ h => trSame_eq same_eq h) h9
  rw [h1, h2, h3, h4, h5, g6, g7, g8, g9, nilB_eq h10, nilB_eq h11]
structure LitC where
  args : List AV
  pre : St
  v : AV
  post : St
noncomputable def litRK (l : LitC) : Res → VC
  | .val x s => bif_ (sameV x l.v && stEq s l.post) .ok .bad
  | _ => .bad
noncomputable def conLit (L : List LitC) : Con := fun args st k => List.rec (motive := fun _ => VC) .bad (fun l _ ih => bif_ (sameL args l.args && stEq st l.pre) (k l.v l.post) ih) L
theorem va_eq {ρ ρ' : Va} (h : ρ.Le ρ') (hz : ρ.z.length = ρ'.z.length) (ha : ρ.a.length = ρ'.a.length) : ρ' = ρ := by
  obtain ⟨z, a⟩ := ρ
  obtain ⟨z', a'⟩ := ρ'
  have e1 : z' = z := by
    apply List.ext_getElem hz.symm
    intro i h1 h2
    have := h.1 i z[i] (by simp [h2])
    simpa [h1] using this
  have e2 : a' = a := by
    apply List.ext_getElem ha.symm
    intro i h1 h2
    have := h.2 i a[i] (by simp [h2])
    simpa [h1] using this
  rw [e1, e2]
section
variable {P : Program} {hm : P.follows .mixedOrders = true} {glob : Tr (Tr AV)} {w0 : World}
theorem stRel_tabs {con con' : Tr Con} {ls ls' : Tr LSpec} {ro : Tr (Tr AV)} {K : Nat → Prop} {E : Env} {st : St} {w : World} (h : StRel (tabs P hm con glob ls ro) K w0 E st w) : StRel (tabs P hm con' glob ls' ro) K w0 E st w :=
  ⟨h.n_eq, h.c_eq, h.z_eq, h.a_eq, h.o_eq, h.klt, h.kept, h.ids, h.lt, h.blks, h.fams, h.livelt, h.lives, h.objs, h.oinj, h.apart, h.facts, h.famh, h.liveh, h.ext⟩
theorem lit_at {con1 : Tr Con} {ls1 : Tr LSpec} {Θ : Pred} {ls : Tr LSpec} {ro : Tr (Tr AV)} {f : FuncId} {L : List LitC} (hg : GlobOK glob w0) (hcon : ConOK P hm con1 glob w0 Θ ls1 ro)
    (h : ∀ l ∈ L, l.pre.x.nz = l.post.x.nz ∧ l.pre.x.na = l.post.x.na ∧ ∃ n, (runX P con1 glob n (.call f l.args) (litRK l) ls1 ro l.pre).triv = true) : ConAt P hm glob w0 Θ ls ro f (conLit L) := by
  intro con args st k E R w xs hS hx hh
  induction L with
  | nil => exact hh.elim
  | cons l L ih =>
    have hh : (bif_ (sameL args l.args && stEq st l.pre) (k l.v l.post) (conLit L args st k) : VC).holds Θ E.va R := hh
    cases hb : sameL args l.args && stEq st l.pre with
    | false => rw [hb] at hh; exact ih (fun l hl => h l (List.mem_cons_of_mem _ hl)) hh
    | true =>
      rw [hb] at hh
      have hk : (k l.v l.post).holds Θ E.va R := hh
      rw [Bool.and_eq_true] at hb
      have e1 := sameL_eq hb.1
      have e2 := stEq_eq hb.2
      subst e1 e2
      obtain ⟨hz, ha, n, ht⟩ := h l (List.mem_cons_self ..)
      rw [runX_eq] at ht
      have hr := (run_ok (X := tabs P hm con1 glob ls1 ro) (cxOf_ok P hm con1 hg) (cxOf_fns hcon) n).call (stRel_tabs hS) hx (R := R) (triv_holds ht)
      refine OpRes.mono (fun y w' ho => ?_) hr
      obtain ⟨v', st', E', R', hR, h2, h3, h4, h5, h6⟩ := ho
      have h2 : (bif_ (sameV v' l.v && stEq st' l.post) .ok .bad : VC).holds Θ E'.va R' := h2
      cases hb2 : sameV v' l.v && stEq st' l.post with
      | false => rw [hb2] at h2; exact h2.elim
      | true =>
        rw [Bool.and_eq_true] at hb2
        have e3 := sameV_eq hb2.1
        have e4 := stEq_eq hb2.2
        subst e3 e4
        have hva : E'.va = E.va := va_eq h3.va (by have := hS.z_eq; have := h4.z_eq; show E.z.length = E'.z.length; omega) (by have := hS.a_eq; have := h4.a_eq; show E.a.length = E'.a.length; omega)
        exact ⟨_, _, E', R, List.prefix_rfl, by rw [hva]; exact hk, h3, stRel_tabs h4, h5, h6⟩
end
end Go.Sy
/-! Contracts of calls from states that are written out, what is not needed any more dropped. -/
namespace Go.Sy
noncomputable def trSub {α : Type} (f : α → α → Bool) : Tr α → Tr α → Bool
  | .nil, _ => true
  | .node none a b, u => trSub f a u.lft && trSub f b u.rgt
  | .node (some x) a b, u => Option.rec false (fun y => f x y) u.val && (trSub f a u.lft && trSub f b u.rgt)
theorem trSub_getP {α : Type} {f : α → α → Bool} : ∀ {t u : Tr α} (p : Px) {x : α}, trSub f t u = true → Tr.getP p t = some x → ∃ y, Tr.getP p u = some y ∧ f x y = true := by
  intro t
  induction t with
  | nil => intro u p x _ h; rw [Tr.getP_nil] at h; cases h
  | node v l r ih1 ih2 =>
    intro u p x h hx
    have hs : (∀ y, v = some y → ∃ z, u.val = some z ∧ f y z = true) ∧ trSub f l u.lft = true ∧ trSub f r u.rgt = true := by
      cases v with
      | none =>
        simp only [trSub, Bool.and_eq_true] at h
        exact ⟨fun y e => (by cases e), h.1, h.2⟩
      | some w =>
        simp only [trSub, Bool.and_eq_true] at h
        refine ⟨fun y e => ?_, h.2.1, h.2.2⟩
        cases e
        cases hv : u.val with
        | none => rw [hv] at h; cases h.1
        | some z => rw [hv] at h; exact ⟨z, rfl, h.1⟩
    cases p with
    | h =>
      rw [Tr.getP_h] at hx ⊢
      exact hs.1 x hx
    | o q =>
      rw [Tr.getP_o] at hx ⊢
      exact ih1 q hs.2.1 hx
    | i q =>
      rw [Tr.getP_i] at hx ⊢
      exact ih2 q hs.2.2 hx
theorem trSub_get {α : Type} {f : α → α → Bool} (hf : ∀ a b, f a b = true → a = b) {t u : Tr α} {k : Nat} {x : α} (h : trSub f t u = true) (hx : t.get k = some x) : u.get k = some x := by
  obtain ⟨y, h1, h2⟩ := trSub_getP (pth k) h hx
  rw [hf _ _ h2]
  exact h1
noncomputable def trAll {α : Type} (p : α → Bool) : Tr α → Bool
  | .nil => true
  | .node none a b => trAll p a && trAll p b
  | .node (some x) a b => p x && (trAll p a && trAll p b)
theorem trAll_getP {α : Type} {f : α → Bool} : ∀ {t : Tr α} (p : Px) {x : α}, trAll f t = true → Tr.getP p t = some x → f x = true := by
  intro t
  induction t with
  | nil => intro p x _ h; rw [Tr.getP_nil] at h; cases h
  | node v l r ih1 ih2 =>
    intro p x h hx
    have hs : (∀ y, v = some y → f y = true) ∧ trAll f l = true ∧ trAll f r = true := by
      cases v with
      | none =>
        simp only [trAll, Bool.and_eq_true] at h
        exact ⟨fun y e => (by cases e), h.1, h.2⟩
      | some w =>
        simp only [trAll, Bool.and_eq_true] at h
        exact ⟨fun y e => (by cases e; exact h.1), h.2.1, h.2.2⟩
    cases p with
    | h => exact hs.1 x hx
    | o q => exact ih1 q hs.2.1 hx
    | i q => exact ih2 q hs.2.2 hx
/-- Of the keys below m, what the first tree holds, the second one holds. -/
noncomputable def trOld {α : Type} (m : Nat) (f : α → α → Bool) : Tr α → Nat → Nat → Tr α → Bool
  | .nil, _, _, _ => true
  | .node v l r, a, b, t => (Option.rec true (fun x => Bool.rec true (Option.rec false (fun y => f x y) t.val) (Nat.blt b m)) v : Bool) && (trOld m f l (Nat.add a a) (Nat.add a b) t.lft && trOld m f r (Nat.add a a) (Nat.add a (Nat.add a b)) t.rgt)
theorem trOld_getP {α : Type} {m : Nat} {f : α → α → Bool} : ∀ {s : Tr α} {a b : Nat} {t : Tr α} (p : Px) {x : α}, trOld m f s a b t = true → Tr.getP p s = some x → a * p.num + b < m → ∃ y, Tr.getP p t = some y ∧ f x y = true := by
  intro s
  induction s with
  | nil => intro a b t p x _ h; rw [Tr.getP_nil] at h; cases h
  | node v l r ih1 ih2 =>
    intro a b t p x h hx hm
    simp only [trOld, Bool.and_eq_true] at h
    obtain ⟨h1, h2, h3⟩ := h
    cases p with
    | h =>
      rw [Tr.getP_h] at hx ⊢
      have hx : v = some x := hx
      subst hx
      have hb : Nat.blt b m = true := by
        have : a * Px.num .h + b = b := by simp [Px.num]
        rw [this] at hm
        simp [Nat.blt_eq, hm]
      have h1 : (Bool.rec true (Option.rec false (fun y => f x y) t.val) (Nat.blt b m) : Bool) = true := h1
      rw [hb] at h1
      cases hv : t.val with
      | none => rw [hv] at h1; cases h1
      | some y => rw [hv] at h1; exact ⟨y, rfl, h1⟩
    | o q =>
      rw [Tr.getP_o] at hx ⊢
      refine ih1 q h2 hx ?_
      have e : a * Px.num (.o q) + b = Nat.add a a * q.num + Nat.add a b := by
        simp only [Px.num, Nat.add_eq]; rw [Nat.mul_add, Nat.add_mul, Nat.mul_comm 2, ← Nat.mul_assoc]; omega
      omega
    | i q =>
      rw [Tr.getP_i] at hx ⊢
      refine ih2 q h3 hx ?_
      have e : a * Px.num (.i q) + b = Nat.add a a * q.num + Nat.add a (Nat.add a b) := by
        simp only [Px.num, Nat.add_eq]; rw [Nat.mul_add, Nat.add_mul, Nat.mul_comm 2, ← Nat.mul_assoc]; omega
      omega
theorem trOld_get {α : Type} {m : Nat} {f : α → α → Bool} (hf : ∀ a b, f a b = true → a = b) {s t : Tr α} (hs : ∀ k x, t.get k = some x → ∃ y, s.get k = some y) (h : trOld m f s 1 0 t = true) {k : Nat} (hk : k < m) : t.get k = s.get k := by
  cases e : s.get k with
  | none =>
    cases e' : t.get k with
    | none => rfl
    | some y => obtain ⟨z, hz⟩ := hs k y e'; rw [e] at hz; cases hz
  | some x =>
    obtain ⟨y, h1, h2⟩ := trOld_getP (pth k) h e (by rw [pth_num]; omega)
    have h1 : t.get k = some y := h1
    rw [h1, hf _ _ h2]
theorem trOld_has {α : Type} {m : Nat} {s t : Tr α} (hs : ∀ k x, t.get k = some x → s.get k = some x) (h : trOld m (fun _ _ => true) s 1 0 t = true) {k : Nat} (hk : k < m) : t.get k = s.get k := by
  cases e' : t.get k with
  | some y => rw [hs k y e']
  | none =>
    cases e : s.get k with
    | none => rfl
    | some x =>
      obtain ⟨y, h1, _⟩ := trOld_getP (pth k) h e (by rw [pth_num]; omega)
      have h1 : t.get k = some y := h1
      rw [e'] at h1; cases h1
noncomputable def subL (a b : List Nat) : Bool := List.rec (motive := fun _ => Bool) true (fun j _ ih => memN j b && ih) a
theorem subL_mem {b : List Nat} : ∀ {a : List Nat}, subL a b = true → ∀ j ∈ a, j ∈ b
  | [], _, j, hj => by cases hj
  | i :: a, h, j, hj => by
    have h : (memN i b && subL a b) = true := h
    rw [Bool.and_eq_true] at h
    rcases List.mem_cons.1 hj with rfl | hj
    · exact memN_iff'.1 h.1
    · exact subL_mem h.2 j hj
noncomputable def keptL (t : Tr Blk) (a b : List Nat) : Bool := List.rec (motive := fun _ => Bool) true (fun j _ ih => Option.rec true (fun _ => memN j b) (t.get j) && ih) a
theorem keptL_mem {t : Tr Blk} {b : List Nat} : ∀ {a : List Nat}, keptL t a b = true → ∀ j ∈ a, ∀ x, t.get j = some x → j ∈ b
  | [], _, j, hj, _, _ => by cases hj
  | i :: a, h, j, hj, x, hx => by
    have h : ((Option.rec true (fun _ => memN i b) (t.get i) : Bool) && keptL t a b) = true := h
    rw [Bool.and_eq_true] at h
    rcases List.mem_cons.1 hj with rfl | hj
    · have h1 := h.1
      rw [hx] at h1
      exact memN_iff'.1 h1
    · exact keptL_mem h.2 j hj x hx
noncomputable def famB (t s : St) (b : Blk) : Bool := match t.live.get b.fam, s.live.get b.fam with
  | none, none => true
  | some l, some l' => keptL t.heap l' l
  | _, _ => false
/-- The state t is the state s, with things dropped that were made after the first m. -/
noncomputable def subSt (m : Nat) (t s : St) : Bool :=
  Nat.beq t.n s.n && (Nat.beq t.nc s.nc && (Nat.beq t.x.nz s.x.nz && (Nat.beq t.x.na s.x.na && (Nat.beq t.x.no s.x.no && (nilB t.x.facts s.x.facts && (nilB t.x.nm s.x.nm && (trSub blkB t.heap s.heap && (trSub subL t.live s.live && (trSub obB t.x.objs s.x.objs &&
    (trAll (famB t s) t.heap && (trOld m (fun _ _ => true) s.heap 1 0 t.heap && (trOld m (fun _ _ => true) s.x.objs 1 0 t.x.objs && trOld m leqL s.live 1 0 t.live))))))))))))
structure SubSt (m : Nat) (t s : St) : Prop where
  n : t.n = s.n
  nc : t.nc = s.nc
  nz : t.x.nz = s.x.nz
  na : t.x.na = s.x.na
  no : t.x.no = s.x.no
  facts : t.x.facts = s.x.facts
  nm : t.x.nm = s.x.nm
  heap : ∀ k b, t.heap.get k = some b → s.heap.get k = some b
  live : ∀ k l, t.live.get k = some l → ∃ l', s.live.get k = some l' ∧ ∀ j ∈ l, j ∈ l'
  objs : ∀ k b, t.x.objs.get k = some b → s.x.objs.get k = some b
  fam : ∀ k b, t.heap.get k = some b → ∀ k' b', t.heap.get k' = some b' → k' ∈ famOf s b k → k' ∈ famOf t b k
  old : ∀ k, k < m → t.heap.get k = s.heap.get k ∧ t.x.objs.get k = s.x.objs.get k ∧ t.live.get k = s.live.get k
theorem subSt_spec {m : Nat} {t s : St} (h : subSt m t s = true) : SubSt m t s := by
  simp only [subSt, Bool.and_eq_true, beq_iff, decide_eq_true_eq] at h
  obtain ⟨h1, h2, h3, h4, h5, h6, h7, h8, h9, h10, h11, h12, h13, h14⟩ := h
  refine ⟨h1, h2, h3, h4, h5, nilB_eq h6, nilB_eq h7, fun k b hb => ?_, fun k b hb => ?_, fun k b hb => ?_, fun k b hb k' b' hb' hm => ?_, fun k hk => ?_⟩
  · exact trSub_get (fun _ _ h => Option.some.inj (blkSame_eq h)) h8 hb
  · obtain ⟨y, g1, g2⟩ := trSub_getP (pth k) h9 hb
    exact ⟨y, g1, subL_mem g2⟩
  · exact trSub_get (fun _ _ h => Option.some.inj (obSame_eq h)) h10 hb
  · have h := trAll_getP (pth k) h11 hb
    unfold famB at h
    unfold famOf at hm ⊢
    split at h
    · rename_i e1 e2
      rw [e2] at hm
      rw [e1]
      exact hm
    · rename_i l l' e1 e2
      rw [e2] at hm
      rw [e1]
      exact keptL_mem h k' hm b' hb'
    · cases h
  · exact ⟨trOld_has (fun k b hb => trSub_get (fun _ _ h => Option.some.inj (blkSame_eq h)) h8 hb) h12 hk, trOld_has (fun k b hb => trSub_get (fun _ _ h => Option.some.inj (obSame_eq h)) h10 hb) h13 hk,
      trOld_get (fun _ _ h => leqL_iff h) (fun k b hb => by obtain ⟨y, g1, _⟩ := trSub_getP (pth k) h9 hb; exact ⟨y, g1⟩) h14 hk⟩
theorem StRel.sub {X : Tabs} {K : Nat → Prop} {w0 : World} {E : Env} {s t : St} {w : World} {m : Nat} (h : StRel X K w0 E s w) (hs : SubSt m t s) : StRel X K w0 E t w := by
  refine ⟨h.n_eq.trans hs.n.symm, h.c_eq.trans hs.nc.symm, h.z_eq.trans hs.nz.symm, h.a_eq.trans hs.na.symm, h.o_eq.trans hs.no.symm, h.klt, h.kept, h.ids, fun k b hb => ?_, fun k b hb => h.blks k b (hs.heap k b hb), fun k1 k2 b1 b2 id1 sh1 id2 sh2 e1 e2 => h.fams k1 k2 b1 b2 id1 sh1 id2 sh2 (hs.heap _ _ e1) (hs.heap _ _ e2), fun f l hl => ?_,
    fun k b hb k' b' hb' he => ?_, fun k o ho => ?_, fun k1 k2 o1 o2 p e1 e2 => h.oinj k1 k2 o1 o2 p (hs.objs _ _ e1) (hs.objs _ _ e2), fun k o ho => ?_, ?_, fun k b p hb => h.famh k b p (hs.heap k b hb), fun f l hl => ?_, ?_⟩
  · rw [hs.n]; exact h.lt k b (hs.heap k b hb)
  · obtain ⟨l', g, _⟩ := hs.live f l hl
    rw [hs.n]; exact h.livelt f l' g
  · exact hs.fam k b hb k' b' hb' (h.lives k b (hs.heap k b hb) k' b' (hs.heap k' b' hb') he)
  · rw [hs.n]; exact h.objs k o (hs.objs k o ho)
  · have := h.apart k o (hs.objs k o ho)
    cases e : t.heap.get k with
    | none => rfl
    | some b => rw [hs.heap k b e] at this; cases this
  · rw [hs.facts]; exact h.facts
  · obtain ⟨l', g, g'⟩ := hs.live f l hl
    exact ⟨(h.liveh f l' g).1, fun j hj => (h.liveh f l' g).2 j (g' j hj)⟩
  · rw [hs.nm]; exact h.ext
/-- The value is the one written out; the state is the one written out, and more. -/
noncomputable def litSK (l : LitC) : Res → VC
  | .val x s => bif_ (sameV x l.v && subSt l.pre.n l.post s) .ok .bad
  | _ => .bad
section
variable {P : Program} {hm : P.follows .mixedOrders = true} {glob : Tr (Tr AV)} {w0 : World}
theorem litS_at {con1 : Tr Con} {ls1 : Tr LSpec} {Θ : Pred} {ls : Tr LSpec} {ro : Tr (Tr AV)} {f : FuncId} {L : List LitC} (hg : GlobOK glob w0) (hcon : ConOK P hm con1 glob w0 Θ ls1 ro)
    (h : ∀ l ∈ L, l.pre.x.nz = l.post.x.nz ∧ l.pre.x.na = l.post.x.na ∧ ∃ n, (runX P con1 glob n (.call f l.args) (litSK l) ls1 ro l.pre).triv = true) : ConAt P hm glob w0 Θ ls ro f (conLit L) := by
  intro con args st k E R w xs hS hx hh
  induction L with
  | nil => exact hh.elim
  | cons l L ih =>
    have hh : (bif_ (sameL args l.args && stEq st l.pre) (k l.v l.post) (conLit L args st k) : VC).holds Θ E.va R := hh
    cases hb : sameL args l.args && stEq st l.pre with
    | false => rw [hb] at hh; exact ih (fun l hl => h l (List.mem_cons_of_mem _ hl)) hh
    | true =>
      rw [hb] at hh
      have hk : (k l.v l.post).holds Θ E.va R := hh
      rw [Bool.and_eq_true] at hb
      have e1 := sameL_eq hb.1
      have e2 := stEq_eq hb.2
      subst e1 e2
      obtain ⟨hz, ha, n, ht⟩ := h l (List.mem_cons_self ..)
      rw [runX_eq] at ht
      have hr := (run_ok (X := tabs P hm con1 glob ls1 ro) (cxOf_ok P hm con1 hg) (cxOf_fns hcon) n).call (stRel_tabs hS) hx (R := R) (triv_holds ht)
      refine OpRes.mono (fun y w' ho => ?_) hr
      obtain ⟨v', st', E', R', hR, h2, h3, h4, h5, h6⟩ := ho
      have h2 : (bif_ (sameV v' l.v && subSt l.pre.n l.post st') .ok .bad : VC).holds Θ E'.va R' := h2
      cases hb2 : sameV v' l.v && subSt l.pre.n l.post st' with
      | false => rw [hb2] at h2; exact h2.elim
      | true =>
        rw [Bool.and_eq_true] at hb2
        have e3 := sameV_eq hb2.1
        have hs := subSt_spec hb2.2
        subst e3
        have hva : E'.va = E.va := va_eq h3.va (by have := hS.z_eq; have := h4.z_eq; have := hs.nz; show E.z.length = E'.z.length; omega) (by have := hS.a_eq; have := h4.a_eq; have := hs.na; show E.a.length = E'.a.length; omega)
        refine ⟨_, _, E', R, List.prefix_rfl, by rw [hva]; exact hk, h3, stRel_tabs (h4.sub hs), fun j hj => ?_, h6⟩
        obtain ⟨g1, g2, g3, g4⟩ := h5 j hj
        have hlt : j < l.pre.n := by rw [← hS.n_eq]; exact (List.getElem?_eq_some_iff.1 hj).1
        obtain ⟨o1, o2, o3⟩ := hs.old j hlt
        exact ⟨g1, o1.trans g2, o2.trans g3, o3.trans g4⟩
end
end Go.Sy
