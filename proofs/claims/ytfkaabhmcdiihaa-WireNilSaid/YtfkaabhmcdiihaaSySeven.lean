import Derived.Test.YtfkaabhmcdiihaaSySix
import Derived.WideKeyArgs
import Derived.OpenShut
import Derived.Shelf.Spec.BitsCarry
import Derived.Lib.Mul64
/-! Calls with arguments of whole numbers and truth values that are not known. -/
namespace Go.Sy
open Go.RowKit (Below)

/-- The start: so many numbers, of which some is known. -/
noncomputable def stS (nz : Nat) (fs : List T) : St := ⟨0, 0, .nil, .nil, ⟨.nil, .nil, fs, nz, 0, 0, []⟩⟩
/-- A run from there, the tables written out. -/
noncomputable def runS (P : Program) (con : Tr Con) (glob : Tr (Tr AV)) (n nz : Nat) (fs : List T) (t : Task) (K : Res → VC) (ls : Tr LSpec := .nil) : VC :=
  trK (fun _ => undOf P.types) P.types.toList 0 .nil fun u => trK (fun _ i => some i.size) P.types.toList 0 .nil fun s => trK (fun _ => zeroOf P.types) P.types.toList 0 .nil fun z =>
  trK (fun i _ => eqmOf P i) P.types.toList 0 .nil fun e => trK (fnOf u s z) P.funcs.toList 0 .nil fun f =>
  run { eqm := e, und := u, size := s, zero := z, fns := f, glob := glob, con := con, ls := ls } n t (stS nz fs) K
theorem runS_eq (P : Program) (con : Tr Con) (glob : Tr (Tr AV)) (n nz : Nat) (fs : List T) (t : Task) (K : Res → VC) (ls : Tr LSpec) : runS P con glob n nz fs t K ls = run (cxWith P con glob ls) n t (stS nz fs) K := by
  unfold runS cxWith
  rw [trK_eq, trK_eq, trK_eq, trK_eq, trK_eq]
abbrev EZ (zs : List Int) : Env := ⟨[], [], zs, [], []⟩
theorem stS_rel {X : Tabs} (hro : X.cx.ro = .nil) (w0 : World) {zs : List Int} {fs : List T} (hf : FOK ⟨zs, []⟩ fs) : StRel X (· < w0.heap.size) w0 (EZ zs) (stS zs.length fs) w0 :=
  ⟨rfl, rfl, rfl, rfl, rfl, fun _ h => h, .refl _ _, fun k p h => by simp at h, fun k b h => by simp [stS] at h, fun k b h => by simp [stS] at h, fun k1 k2 b1 b2 id1 sh1 id2 sh2 h => by simp [stS] at h, fun f l h => by simp [stS] at h,
   fun k b h => by simp [stS] at h, fun k b h => by simp [stS] at h, fun k1 k2 o1 o2 p h => by simp [stS] at h, fun k o h => by simp [stS] at h, hf, fun k b p h => by simp [stS] at h, fun f l h => by simp [stS] at h, ⟨fun i t h => by simp [hro] at h, fun c hc => (by cases hc)⟩⟩

section
variable {P : Program}
/-- Whatever the numbers are of which that is known, the call returns true. -/
def Symb (P : Program) (hm : P.follows .mixedOrders = true) (con : Tr Con) (glob : Tr (Tr AV)) (f : Nat) (args : List AV) (nz : Nat) (fs : List T) (ls : Tr LSpec := .nil) : Prop :=
  ∀ (zs : List Int) (W : World) (xs : List Value), zs.length = nz → FOK ⟨zs, []⟩ fs → denL (EZ zs) args = some xs → GlobOK glob W → (∀ Θ, ConOK P hm con glob W Θ ls) →
    Calls P f xs.toArray W fun e w' => e = .returned (.bool true) ∧ Below W.heap.size W w'
/-- The same, where what is owed is shown. -/
theorem Symb.runV {hm : P.follows .mixedOrders = true} {con : Tr Con} {glob : Tr (Tr AV)} {n f nz : Nat} {args : List AV} {fs : List T} {ls : Tr LSpec} (Θ : Pred)
    (h : ∀ zs : List Int, zs.length = nz → FOK ⟨zs, []⟩ fs → (runS P con glob n nz fs (.call f args) isTrueK ls).holds Θ ⟨zs, []⟩ []) (hfn : hasFn P f = true) : Symb P hm con glob f args nz fs ls := by
  intro zs W xs hz hf hd hg hcon
  have h := h zs hz hf
  subst hz
  rw [runS_eq] at h
  refine (calls_of_runE (X := tabs P hm con glob ls) (cxOf_ok P hm con hg) (cxOf_fns (hcon Θ)) (E := EZ zs) (R := []) (stS_rel rfl W hf) hd h hfn).mono fun e w' ⟨v, he, ho⟩ => ?_
  obtain ⟨h1, h2⟩ := isTrueK_out ho
  subst h1
  exact ⟨he, Kept.below h2⟩
theorem Symb.run {hm : P.follows .mixedOrders = true} {con : Tr Con} {glob : Tr (Tr AV)} {n f nz : Nat} {args : List AV} {fs : List T} {ls : Tr LSpec} (h : (runS P con glob n nz fs (.call f args) isTrueK ls).triv = true) (hfn : hasFn P f = true) :
    Symb P hm con glob f args nz fs ls := Symb.runV (fun _ _ => True) (fun _ _ _ => triv_holds h) hfn

/-- A comparison of numbers. -/
noncomputable def simpT (nz : Nat) : T → Bool
  | .z _ => true
  | .zv i => Nat.blt i nz
  | _ => false
noncomputable def zcOK (nz : Nat) : T → Bool
  | .cmp op x y => (isCmp op && simpT nz x) && simpT nz y
  | _ => false
theorem simpT_ev {zs : List Int} {t : T} (h : simpT zs.length t = true) : ∃ n, t.ev ⟨zs, []⟩ = some (.i n) := by
  unfold simpT at h
  split at h
  · exact ⟨_, rfl⟩
  · rename_i i
    rw [Nat.blt_eq] at h
    exact ⟨zs[i], by simp [T.ev, h]⟩
  · cases h
theorem zcOK_ev {zs : List Int} {c : T} (h : zcOK zs.length c = true) : ∃ b, c.ev ⟨zs, []⟩ = some (.b b) := by
  unfold zcOK at h
  split at h
  · rename_i op x y
    simp only [Bool.and_eq_true] at h
    obtain ⟨n, hn⟩ := simpT_ev h.1.2
    obtain ⟨m, hm⟩ := simpT_ev h.2
    have h1 := h.1.1
    rw [cmp_ev hn hm]
    cases op <;> first | (exact absurd h1 (by decide)) | exact ⟨_, rfl⟩
  · cases h
theorem Symb.cut {hm : P.follows .mixedOrders = true} {con : Tr Con} {glob : Tr (Tr AV)} {f nz : Nat} {args : List AV} {fs : List T} {ls : Tr LSpec} (c : T) (hc : zcOK nz c = true) (h1 : Symb P hm con glob f args nz (addF c fs) ls) (h2 : Symb P hm con glob f args nz (addF (mkNot c) fs) ls) :
    Symb P hm con glob f args nz fs ls := by
  intro zs W xs hz hf hd hg hcon
  obtain ⟨b, hb⟩ := zcOK_ev (zs := zs) (hz ▸ hc)
  cases b with
  | true => exact h1 zs W xs hz (addF_ok hb hf) hd hg hcon
  | false => exact h2 zs W xs hz (addF_ok (mkNot_ev hb) hf) hd hg hcon
theorem Symb.drop {hm : P.follows .mixedOrders = true} {con : Tr Con} {glob : Tr (Tr AV)} {f nz : Nat} {args : List AV} {fs : List T} {ls : Tr LSpec} (h : Symb P hm con glob f args nz [] ls) : Symb P hm con glob f args nz fs ls :=
  fun zs W xs hz _ => h zs W xs hz fun _ h => by cases h
theorem Symb.eq {hm : P.follows .mixedOrders = true} {con : Tr Con} {glob : Tr (Tr AV)} {f nz : Nat} {args : List AV} {fs gs : List T} {ls : Tr LSpec} (h : Symb P hm con glob f args nz gs ls) (he : gs = fs) : Symb P hm con glob f args nz fs ls := he ▸ h
end

/-! ### The arguments -/
/-- A cell: a whole number, or a truth value. -/
inductive Ck where
  | i (k : IntKind)
  | b
noncomputable def Ck.av (j : Nat) : Ck → AV
  | .i k => .sym k (.zv j)
  | .b => .cnd (.cmp .neq (.zv j) (.z 0))
noncomputable def Ck.facts (j : Nat) : Ck → List T
  | .i k => [.cmp .geq (.zv j) (.z (minOf k)), .cmp .leq (.zv j) (.z (maxOf k))]
  | .b => []
def Ck.fits (v : Value) (n : Int) : Ck → Prop
  | .i k => v = .int k n ∧ (Lit.int k n).wf = true
  | .b => v = .bool (decide (n ≠ 0))
def fitL : List Ck → List Value → List Int → Prop
  | [], [], [] => True
  | c :: cs, v :: vs, n :: ns => c.fits v n ∧ fitL cs vs ns
  | _, _, _ => False
noncomputable def tmplL (j : Nat) : List Ck → List AV
  | [] => []
  | c :: cs => c.av j :: tmplL (j + 1) cs
noncomputable def factL (j : Nat) : List Ck → List T
  | [] => []
  | c :: cs => c.facts j ++ factL (j + 1) cs
inductive Sh where
  | one (c : Ck)
  | agg (cs : List Ck)
def Sh.cs : Sh → List Ck
  | .one c => [c]
  | .agg cs => cs
noncomputable def Sh.tmpl (j : Nat) : Sh → AV
  | .one c => c.av j
  | .agg cs => .agg (tmplL j cs)
noncomputable def tmpls : Nat → List Sh → List AV
  | _, [] => []
  | j, s :: r => s.tmpl j :: tmpls (j + s.cs.length) r
noncomputable def facts (j : Nat) (ss : List Sh) : List T := factL j (ss.flatMap Sh.cs)
def Sh.fits (v : Value) (ns : List Int) : Sh → Prop
  | .one c => ∃ n, ns = [n] ∧ c.fits v n
  | .agg cs => ∃ vs, v = .agg vs.toArray ∧ fitL cs vs ns
def argsFit : List Sh → List Value → List Int → Prop
  | [], [], [] => True
  | s :: ss, v :: vs, ns => ∃ n1 n2, ns = n1 ++ n2 ∧ s.fits v n1 ∧ argsFit ss vs n2
  | _, _, _ => False

theorem fitL_len : ∀ {cs : List Ck} {vs : List Value} {ns : List Int}, fitL cs vs ns → ns.length = cs.length
  | [], [], [], _ => rfl
  | c :: cs, v :: vs, n :: ns, h => by simp [fitL_len h.2]
  | [], [], _ :: _, h => h.elim
  | [], _ :: _, _, h => h.elim
  | _ :: _, [], _, h => h.elim
  | _ :: _, _ :: _, [], h => h.elim
theorem shfits_len {s : Sh} {v : Value} {ns : List Int} (h : s.fits v ns) : ns.length = s.cs.length := by
  cases s with
  | one c => obtain ⟨n, rfl, _⟩ := h; rfl
  | agg cs => obtain ⟨vs, _, h⟩ := h; exact fitL_len h
theorem minmax {k : IntKind} {n : Int} (h : (Lit.int k n).wf = true) : minOf k ≤ n ∧ n ≤ maxOf k := by
  simp only [Lit.wf, Bool.and_eq_true, decide_eq_true_eq] at h
  cases k <;> simp only [IntKind.min, IntKind.max, IntKind.signed, IntKind.bits] at h <;> simp [minOf, maxOf] at h ⊢ <;> omega
theorem av_den {c : Ck} {v : Value} {n : Int} {zs : List Int} {j : Nat} (h : c.fits v n) (hz : zs[j]? = some n) : AV.den (EZ zs) (c.av j) = some v := by
  cases c with
  | i k =>
    obtain ⟨rfl, hw⟩ := h
    have hz' : (EZ zs).va.z[j]? = some n := hz
    simp [Ck.av, AV.den, T.ev, hz', hw]
  | b =>
    have h : v = .bool (decide (n ≠ 0)) := h
    subst h
    have hz' : (EZ zs).va.z[j]? = some n := hz
    simp [Ck.av, AV.den, T.ev, hz', zcm]
theorem facts_ok {c : Ck} {v : Value} {n : Int} {zs : List Int} {j : Nat} (h : c.fits v n) (hz : zs[j]? = some n) : FOK ⟨zs, []⟩ (c.facts j) := by
  cases c with
  | i k =>
    obtain ⟨rfl, hw⟩ := h
    obtain ⟨h1, h2⟩ := minmax hw
    intro t ht
    simp only [Ck.facts, List.mem_cons, List.not_mem_nil, or_false] at ht
    rcases ht with rfl | rfl <;> simp [T.ev, hz, zcm, h1, h2]
  | b => exact fun t ht => (by cases ht)
theorem tmplL_den {zs : List Int} : ∀ {cs : List Ck} {vs : List Value} {ns : List Int} {j : Nat}, fitL cs vs ns → (∀ i, i < ns.length → zs[j + i]? = ns[i]?) → denL (EZ zs) (tmplL j cs) = some vs
  | [], [], [], _, _, _ => rfl
  | c :: cs, v :: vs, n :: ns, j, h, hz => by
    have h0 := hz 0 (by simp)
    simp only [Nat.add_zero, List.getElem?_cons_zero] at h0
    have ht := tmplL_den (j := j + 1) h.2 fun i hi => by
      have := hz (i + 1) (by simpa using hi)
      simp only [List.getElem?_cons_succ] at this
      rw [← this]; congr 1; omega
    simp only [tmplL, denL, av_den h.1 h0, ht]
  | [], [], _ :: _, _, h, _ => h.elim
  | [], _ :: _, _, _, h, _ => h.elim
  | _ :: _, [], _, _, h, _ => h.elim
  | _ :: _, _ :: _, [], _, h, _ => h.elim
theorem FOK.append {ρ : Va} {a b : List T} (ha : FOK ρ a) (hb : FOK ρ b) : FOK ρ (a ++ b) := fun c hc => (List.mem_append.1 hc).elim (ha c) (hb c)
theorem factL_ok {zs : List Int} : ∀ {cs : List Ck} {vs : List Value} {ns : List Int} {j : Nat}, fitL cs vs ns → (∀ i, i < ns.length → zs[j + i]? = ns[i]?) → FOK ⟨zs, []⟩ (factL j cs)
  | [], [], [], _, _, _ => fun c hc => (by cases hc)
  | c :: cs, v :: vs, n :: ns, j, h, hz => by
    have h0 := hz 0 (by simp)
    simp only [Nat.add_zero, List.getElem?_cons_zero] at h0
    refine (facts_ok h.1 h0).append (factL_ok (j := j + 1) h.2 fun i hi => ?_)
    have := hz (i + 1) (by simpa using hi)
    simp only [List.getElem?_cons_succ] at this
    rw [← this]; congr 1; omega
  | [], [], _ :: _, _, h, _ => h.elim
  | [], _ :: _, _, _, h, _ => h.elim
  | _ :: _, [], _, _, h, _ => h.elim
  | _ :: _, _ :: _, [], _, h, _ => h.elim
theorem fitL_append : ∀ {cs : List Ck} {vs : List Value} {ns : List Int} {bs : List Ck} {ws : List Value} {ms : List Int}, fitL cs vs ns → fitL bs ws ms → fitL (cs ++ bs) (vs ++ ws) (ns ++ ms)
  | [], [], [], _, _, _, _, h => h
  | _ :: _, _ :: _, _ :: _, _, _, _, h, h' => ⟨h.1, fitL_append h.2 h'⟩
  | [], [], _ :: _, _, _, _, h, _ => h.elim
  | [], _ :: _, _, _, _, _, h, _ => h.elim
  | _ :: _, [], _, _, _, _, h, _ => h.elim
  | _ :: _, _ :: _, [], _, _, _, h, _ => h.elim
theorem shfits_flat {s : Sh} {v : Value} {ns : List Int} (h : s.fits v ns) : ∃ vs, fitL s.cs vs ns := by
  cases s with
  | one c => obtain ⟨n, rfl, h⟩ := h; exact ⟨[v], h, trivial⟩
  | agg cs => obtain ⟨vs, _, h⟩ := h; exact ⟨vs, h⟩
theorem args_flat : ∀ {ss : List Sh} {vs : List Value} {ns : List Int}, argsFit ss vs ns → ∃ ws, fitL (ss.flatMap Sh.cs) ws ns
  | [], [], [], _ => ⟨[], trivial⟩
  | s :: ss, v :: vs, ns, h => by
    obtain ⟨n1, n2, rfl, h1, h2⟩ := h
    obtain ⟨w1, g1⟩ := shfits_flat h1
    obtain ⟨w2, g2⟩ := args_flat h2
    exact ⟨w1 ++ w2, by rw [List.flatMap_cons]; exact fitL_append g1 g2⟩
  | [], [], _ :: _, h => h.elim
  | [], _ :: _, _, h => h.elim
  | _ :: _, [], _, h => h.elim
theorem sh_den {zs : List Int} {s : Sh} {v : Value} {ns : List Int} {j : Nat} (h : s.fits v ns) (hz : ∀ i, i < ns.length → zs[j + i]? = ns[i]?) : AV.den (EZ zs) (s.tmpl j) = some v := by
  cases s with
  | one c =>
    obtain ⟨n, rfl, h⟩ := h
    have h0 := hz 0 (by simp)
    simp only [Nat.add_zero, List.getElem?_cons_zero] at h0
    exact av_den h h0
  | agg cs =>
    obtain ⟨vs, rfl, h⟩ := h
    simp [Sh.tmpl, AV.den, tmplL_den h hz]
theorem tmpls_den {zs : List Int} : ∀ {ss : List Sh} {vs : List Value} {ns : List Int} {j : Nat}, argsFit ss vs ns → (∀ i, i < ns.length → zs[j + i]? = ns[i]?) → denL (EZ zs) (tmpls j ss) = some vs
  | [], [], [], _, _, _ => rfl
  | s :: ss, v :: vs, ns, j, h, hz => by
    obtain ⟨n1, n2, rfl, h1, h2⟩ := h
    have hl := shfits_len h1
    have h3 := sh_den (zs := zs) (j := j) h1 fun i hi => by rw [hz i (by simp; omega), List.getElem?_append_left hi]
    have h4 := tmpls_den (zs := zs) (j := j + s.cs.length) h2 fun i hi => by
      have := hz (n1.length + i) (by simp; omega)
      rw [List.getElem?_append_right (by omega)] at this
      rw [← hl, Nat.add_assoc, this]; congr 1; omega
    simp only [tmpls, denL, h3, h4]
  | [], [], _ :: _, _, h, _ => h.elim
  | [], _ :: _, _, _, h, _ => h.elim
  | _ :: _, [], _, _, h, _ => h.elim

open Go.ChangeShapes Go.WideShapes Go.ChangeAt Go.RowKit
section
variable {P : Program}
noncomputable def ckOK (P : Program) (u : TypeId) : Ck → Bool
  | .i k => match P.underlying u with
    | some (.int k') => kbeq k' k
    | _ => false
  | .b => match P.underlying u with
    | some .bool => true
    | _ => false
theorem ck_fits {W : World} {r : Reach} {base : Nat} {u : TypeId} {v : Value} {c : Ck} (hc : ckOK P u c = true) (h : Cell.okWide P W r base u v) : ∃ n, c.fits v n := by
  cases c with
  | i k =>
    have hc : (match P.underlying u with | some (.int k') => kbeq k' k | _ => false) = true := hc
    split at hc
    · rename_i k' hu
      have hk := kbeq_eq hc
      subst hk
      unfold Cell.okWide at h
      rw [hu] at h
      have h' : Cell.ok P W r base u v := by cases v <;> exact h
      unfold Cell.ok at h'
      rw [hu] at h'
      cases v <;> first | exact h'.elim | skip
      rename_i k2 n
      obtain ⟨rfl, hh⟩ := h'
      exact ⟨n, rfl, by simpa [Lit.wf, IntKind.has] using hh⟩
    · cases hc
  | b =>
    have hc : (match P.underlying u with | some .bool => true | _ => false) = true := hc
    split at hc
    · rename_i hu
      unfold Cell.okWide at h
      rw [hu] at h
      have h' : Cell.ok P W r base u v := by cases v <;> exact h
      unfold Cell.ok at h'
      rw [hu] at h'
      cases v <;> first | exact h'.elim | skip
      rename_i b
      cases b
      · exact ⟨0, rfl⟩
      · exact ⟨1, rfl⟩
    · cases hc

noncomputable def aggOK (P : Program) (t : TypeId) (cs : List Ck) (ts : List TypeId) : Bool := Nat.beq (P.cellsOf t) cs.length && (Nat.beq ts.length cs.length && (ts.zip cs).all fun p => ckOK P p.1 p.2)
/-- A type's shape. -/
noncomputable def shOK (P : Program) (t : TypeId) : Sh → Bool
  | .one c => ckOK P t c
  | .agg cs => match P.underlying t, P.cellTypes P.depth t with
    | some (.struct _), some ts => aggOK P t cs ts
    | some (.array _ _), some ts => aggOK P t cs ts
    | _, _ => false
theorem fitL_of : ∀ {cs : List Ck} {vs : List Value}, cs.length = vs.length → (∀ (i : Nat) (c : Ck) (v : Value), cs[i]? = some c → vs[i]? = some v → ∃ n, c.fits v n) → ∃ ns, fitL cs vs ns
  | [], [], _, _ => ⟨[], trivial⟩
  | c :: cs, v :: vs, hl, h => by
    obtain ⟨n, hn⟩ := h 0 c v rfl rfl
    obtain ⟨ns, hns⟩ := fitL_of (cs := cs) (vs := vs) (by simpa using hl) fun i c v a b => h (i + 1) c v (by simpa using a) (by simpa using b)
    exact ⟨n :: ns, hn, hns⟩
  | [], _ :: _, hl, _ => by simp at hl
  | _ :: _, [], hl, _ => by simp at hl
theorem sh_fits {W : World} {base : Nat} {t : TypeId} {s : Sh} {v : Value} (hs : shOK P t s = true) (h : Value.okWide P W .any base t v) : ∃ ns, s.fits v ns := by
  cases s with
  | one c =>
    have hs : ckOK P t c = true := hs
    have h' : Cell.okWide P W .any base t v := by
      unfold ckOK at hs
      unfold Value.okWide at h
      cases c <;> simp only at hs <;> split at hs <;> first | (rename_i hu; rw [hu] at h; exact h) | cases hs
    obtain ⟨n, hn⟩ := ck_fits hs h'
    exact ⟨[n], n, rfl, hn⟩
  | agg cs =>
    change (match P.underlying t, P.cellTypes P.depth t with
      | some (.struct _), some ts => aggOK P t cs ts
      | some (.array _ _), some ts => aggOK P t cs ts
      | _, _ => false) = true at hs
    have key : ∃ ts, P.cellTypes P.depth t = some ts ∧ aggOK P t cs ts = true ∧ ∃ xs : Array Value, v = .agg xs ∧ xs.size = P.cellsOf t ∧ Row.okWide P W .any base t xs := by
      split at hs
      · rename_i fs ts hu hct
        unfold Value.okWide at h
        rw [hu] at h
        exact ⟨ts, hct, hs, h⟩
      · rename_i fs ts hu hct
        unfold Value.okWide at h
        rw [hu] at h
        exact ⟨ts, hct, hs, h⟩
      · cases hs
    obtain ⟨ts, hct, hs, vs, rfl, hsz, ts', hct', _, hcell⟩ := key
    rw [hct] at hct'
    cases hct'
    simp only [aggOK, Bool.and_eq_true, beq_iff, decide_eq_true_eq, List.all_eq_true] at hs
    obtain ⟨h1, h2, h3⟩ := hs
    obtain ⟨ns, hns⟩ := fitL_of (cs := cs) (vs := vs.toList) (by simp; omega) fun i c v hi hv => by
      have hlt := (List.getElem?_eq_some_iff.1 hi).1
      obtain ⟨u, hu1, hu2⟩ := hcell i v (by simpa using hv)
      rw [Nat.mod_eq_of_lt (by omega)] at hu1
      exact ck_fits (h3 (u, c) (List.mem_of_getElem? (i := i) (by rw [List.getElem?_zip_eq_some]; exact ⟨hu1, hi⟩))) hu2
    exact ⟨ns, vs.toList, by simp, hns⟩
theorem args_fits {W : World} {base : Nat} : ∀ {ts : List TypeId} {ss : List Sh} {vs : List Value}, ts.length = ss.length → vs.length = ts.length → (ts.zip ss).all (fun p => shOK P p.1 p.2) = true → (∀ (j : Nat) t v, ts[j]? = some t → vs[j]? = some v → Value.okWide P W .any base t v) → ∃ ns, argsFit ss vs ns
  | [], [], [], _, _, _, _ => ⟨[], trivial⟩
  | t :: ts, s :: ss, v :: vs, h1, h2, h3, h4 => by
    simp only [List.zip_cons_cons, List.all_cons, Bool.and_eq_true] at h3
    obtain ⟨n1, g1⟩ := sh_fits h3.1 (h4 0 t v rfl rfl)
    obtain ⟨n2, g2⟩ := args_fits (ts := ts) (ss := ss) (vs := vs) (by simpa using h1) (by simpa using h2) h3.2 fun j t v a b => h4 (j + 1) t v (by simpa using a) (by simpa using b)
    exact ⟨n1 ++ n2, n1, n2, rfl, g1, g2⟩
  | [], [], _ :: _, _, h, _, _ => by simp at h
  | [], _ :: _, _, h, _, _, _ => by simp at h
  | _ :: _, [], _, h, _, _, _ => by simp at h
  | _ :: _, _ :: _, [], _, h, _, _ => by simp at h
/-- A walk for whatever arguments. -/
theorem symb_calls {hm : P.follows .mixedOrders = true} {con : Tr Con} {glob : Tr (Tr AV)} {f : Nat} {ts : List TypeId} {ss : List Sh} {ls : Tr LSpec} (hg : Symb P hm con glob f (tmpls 0 ss) (ss.flatMap Sh.cs).length (facts 0 ss) ls) (hlen : ts.length = ss.length) (hsh : (ts.zip ss).all (fun p => shOK P p.1 p.2) = true)
    {W : World} {base : Nat} {args : Array Value} (hal : args.toList.length = ts.length) (hok : ∀ (j : Nat) t v, ts[j]? = some t → args[j]? = some v → Value.okWide P W .any base t v) (hgl : GlobOK glob W) (hcon : ∀ Θ, ConOK P hm con glob W Θ ls) :
    Calls P f args W fun e w' => e = .returned (.bool true) ∧ Below W.heap.size W w' := by
  obtain ⟨ns, hns⟩ := args_fits (P := P) (W := W) (base := base) hlen hal hsh fun j t v a b => hok j t v a (by simpa using b)
  obtain ⟨ws, hw⟩ := args_flat hns
  have := hg ns W args.toList (fitL_len hw) (factL_ok hw fun i _ => by simp) (tmpls_den hns fun i _ => by simp) hgl hcon
  simpa using this
end
end Go.Sy
/-! Fewer facts; a number by its remainder. -/
namespace Go.Sy
section
variable {P : Program} {hm : P.follows .mixedOrders = true} {con : Tr Con} {glob : Tr (Tr AV)} {f nz : Nat} {args : List AV} {fs gs : List T} {ls : Tr LSpec}
noncomputable def subF (gs fs : List T) : Bool := List.rec (motive := fun _ => Bool) true (fun c _ ih => Bool.rec false ih (memT c fs)) gs
theorem subF_mem : ∀ {gs : List T}, subF gs fs = true → ∀ c ∈ gs, c ∈ fs
  | [], _, _, h => by cases h
  | x :: l, h, c, hc => by
    have h : (Bool.rec false (subF l fs) (memT x fs) : Bool) = true := h
    cases e : memT x fs with
    | false => rw [e] at h; cases h
    | true =>
      rw [e] at h
      rcases List.mem_cons.1 hc with rfl | hc
      · exact memT_mem e
      · exact subF_mem h c hc
theorem Symb.sub (h : Symb P hm con glob f args nz gs ls) (hs : subF gs fs = true) : Symb P hm con glob f args nz fs ls :=
  fun zs W xs hz hf => h zs W xs hz fun c hc => hf c (subF_mem hs c hc)
theorem Symb.rem (i : Nat) (hi : i < nz) (h1 : Symb P hm con glob f args nz (.cmp .lss (.zv i) (.z (.ofNat 0)) :: fs) ls)
    (h2 : ∀ j : Nat, j < 256 → Symb P hm con glob f args nz (.cmp .eql (.bin .rem .i64 (.zv i) (.z (.ofNat 256))) (.z (.ofNat j)) :: .cmp .geq (.zv i) (.z (.ofNat 0)) :: fs) ls) : Symb P hm con glob f args nz fs ls := by
  intro zs W xs hz hf
  obtain ⟨n, hn⟩ : ∃ n, zs[i]? = some n := ⟨_, List.getElem?_eq_getElem (by omega)⟩
  have hv : (T.zv i).ev ⟨zs, []⟩ = some (.i n) := by simp [T.ev, hn]
  rcases Int.lt_or_le n 0 with c | c
  · refine h1 zs W xs hz (.cons ?_ hf)
    rw [cmp_ev hv rfl]
    show (some (decide (n < 0))).map D.b = _
    rw [decide_eq_true c]; rfl
  · have h0 : 0 ≤ n.tmod 256 ∧ n.tmod 256 < 256 := by
      rw [Int.tmod_eq_emod_of_nonneg c]; omega
    obtain ⟨j, hj⟩ := Int.eq_ofNat_of_zero_le h0.1
    refine h2 j (by omega) zs W xs hz (.cons ?_ (.cons ?_ hf))
    · have : (T.bin .rem .i64 (.zv i) (.z (.ofNat 256))).ev ⟨zs, []⟩ = some (.i (j : Int)) := by
        simp only [T.ev, hn, Option.map, zar]
        rw [if_neg (by decide)]
        show some (D.i (n.tmod 256)) = _
        rw [hj]
      rw [cmp_ev this rfl]
      show (some (decide ((j : Int) = (j : Int)))).map D.b = _
      rw [decide_eq_true rfl]; rfl
    · rw [cmp_ev hv rfl]
      show (some (decide (0 ≤ n))).map D.b = _
      rw [decide_eq_true c]; rfl
theorem all_lt {Q : Nat → Prop} {a b c : Nat} (h1 : ∀ j, a ≤ j → j < b → Q j) (h2 : ∀ j, b ≤ j → j < c → Q j) : ∀ j, a ≤ j → j < c → Q j := fun j h3 h4 => by
  rcases Nat.lt_or_ge j b with c | c
  · exact h1 j h3 c
  · exact h2 j c h4
theorem all_one {Q : Nat → Prop} {a : Nat} (h : Q a) : ∀ j, a ≤ j → j < a + 1 → Q j := fun j h1 h2 => by
  obtain rfl : a = j := by omega
  exact h
end
end Go.Sy
/-! Contracts: what a function returns, shown by whatever way, taken as known. -/
namespace Go.Sy
open Go.RowKit (Below)
section
variable {X : Tabs} {K : Nat → Prop} {w0 : World} {E : Env} {st : St} {w w' : World} {Θ : Pred} {R : List Back}
/-- What a state says of a world, it says of one in which all that there was is as it was. -/
theorem StRel.grown (h : StRel X K w0 E st w) (hb : Kept (· < w.heap.size) w w') : StRel X K w0 E st w' := by
  have same : ∀ {i : Nat} {o : Obj}, w.heap[i]? = some o → w'.heap[i]? = some o := fun {i o} e => by
    have hi : i < w.heap.size := by
      rcases Nat.lt_or_ge i w.heap.size with c | c
      · exact c
      · rw [Array.getElem?_eq_none c] at e; cases e
    rw [hb.block i hi, e]
  have hk : Kept K w w' := ⟨hb.os, hb.tape, hb.output, hb.size, fun k hk => hb.block k (Nat.lt_of_lt_of_le (h.klt k hk) h.kept.size)⟩
  refine { h with kept := h.kept.trans hk, ids := fun k p e => ⟨(h.ids k p e).1, Nat.lt_of_lt_of_le (h.ids k p e).2 hb.size⟩, blks := fun k b e => ?_, objs := fun k o e => ?_ }
  · rcases h.blks k b e with h1 | ⟨id, sh, cs, el, fr, h1, h2, h3⟩
    · exact .inl h1
    · exact .inr ⟨id, sh, cs, el, fr, h1, same h2, h3⟩
  · obtain ⟨h1, h2 | ⟨id, ob, h2, h3, h4⟩⟩ := h.objs k o e
    · exact ⟨h1, .inl h2⟩
    · exact ⟨h1, .inr ⟨id, ob, h2, same h3, h4⟩⟩
theorem GlobOK.kept {glob : Tr (Tr AV)} (h : GlobOK glob w) (hk : Kept (· < w.heap.size) w w') : GlobOK glob w' := fun g t e => by
  obtain ⟨h1, h2⟩ := h g t e
  refine ⟨Nat.lt_of_lt_of_le h1 hk.size, fun i v hv => ?_⟩
  obtain ⟨x, h3, h4⟩ := h2 i v hv
  refine ⟨x, h3, ?_⟩
  have hb := hk.below.cell (p := ⟨g, i, none⟩) h1
  rw [hb]; exact h4
end

section
variable {P : Program} {hm : P.follows .mixedOrders = true} {glob : Tr (Tr AV)} {w0 : World} {Θ : Pred}
/-- A contract by a result that is known: by the arguments, and by what stands in memory. -/
noncomputable def conRes (g : List AV → St → Option AV) : Con := fun args st k => vbind (g args st) fun v => k v st
/-- What is asked of such a contract. -/
def ResOK (P : Program) (hm : P.follows .mixedOrders = true) (glob : Tr (Tr AV)) (w0 : World) (f : FuncId) (g : List AV → St → Option AV) : Prop :=
  ∀ (con : Tr Con) (ls : Tr LSpec) (ro : Tr (Tr AV)) (args : List AV) (st : St) (v : AV), g args st = some v → ∀ (E : Env) (w : World) (xs : List Value), StRel (tabs P hm con glob ls ro) (· < w0.heap.size) w0 E st w → denL E args = some xs →
    ∃ y, v.den E = some y ∧ Calls P f xs.toArray w fun e w' => e = .returned y ∧ Below w.heap.size w w'
/-- The same of a function without a text, that the model gives. -/
def ExtOK (P : Program) (f : FuncId) (g : List AV → St → Option AV) : Prop :=
  ∀ (args : List AV) (st : St) (v : AV), g args st = some v → ∀ (E : Env) (w : World) (xs : List Value), denL E args = some xs → ∃ y, v.den E = some y ∧ (callFunc f xs.toArray).run P w = .ok (.value y) w
def ConCl (P : Program) (hm : P.follows .mixedOrders = true) (glob : Tr (Tr AV)) (w0 : World) (f : FuncId) (c : Con) : Prop :=
  ∃ g, c = conRes g ∧ (ExtOK P f g ∨ hasFn P f = true ∧ ResOK P hm glob w0 f g)
/-- What is asked of one contract. -/
def ConAt (P : Program) (hm : P.follows .mixedOrders = true) (glob : Tr (Tr AV)) (w0 : World) (Θ : Pred) (ls : Tr LSpec) (ro : Tr (Tr AV)) (f : FuncId) (c : Con) : Prop :=
  ∀ (con : Tr Con) {args : List AV} {st : St} {k : Kt} {E : Env} {R : List Back} {w : World} {xs : List Value}, StRel (tabs P hm con glob ls ro) (· < w0.heap.size) w0 E st w → denL E args = some xs → (c args st k).holds Θ E.va R →
    OpRes P (Out (tabs P hm con glob ls ro) (· < w0.heap.size) w0 Θ R E st k) ((callFunc f xs.toArray).run P w)
theorem conOK_at {con : Tr Con} {ls : Tr LSpec} {ro : Tr (Tr AV)} (h : ∀ f c, con.get f = some c → ConAt P hm glob w0 Θ ls ro f c) : ConOK P hm con glob w0 Θ ls ro :=
  fun f c hc _ _ _ _ _ _ _ hS hx hh => h f c hc con hS hx hh
theorem conAt_set {con : Tr Con} {ls : Tr LSpec} {ro : Tr (Tr AV)} {f : FuncId} {c : Con} (hg : ConAt P hm glob w0 Θ ls ro f c) (h : ∀ f c, con.get f = some c → ConAt P hm glob w0 Θ ls ro f c) : ∀ f' c', (con.set f (some c)).get f' = some c' → ConAt P hm glob w0 Θ ls ro f' c' := by
  intro f' c' hc
  by_cases e : f' = f
  · subst e
    rw [Tr.get_set_same] at hc
    cases hc
    exact hg
  · rw [Tr.get_set_other _ _ (fun h => e h.symm)] at hc
    exact h f' c' hc
theorem conAt_nil {ls : Tr LSpec} {ro : Tr (Tr AV)} : ∀ (f : Nat) (c : Con), (Tr.nil : Tr Con).get f = some c → ConAt P hm glob w0 Θ ls ro f c := fun f c h => by simp at h
theorem ConCl.at {ls : Tr LSpec} {ro : Tr (Tr AV)} {f : FuncId} {c : Con} (h : ConCl P hm glob w0 f c) : ConAt P hm glob w0 Θ ls ro f c := by
  intro con args st k E R w xs hS hx hh
  obtain ⟨g, rfl, hg⟩ := h
  obtain ⟨v, hv, hh⟩ := vbind_inv hh
  rcases hg with hg | ⟨hfn, hg⟩
  · obtain ⟨y, hy, hr⟩ := hg args st v hv E w xs hx
    rw [hr]
    exact ⟨v, st, E, R, List.prefix_rfl, hh, .refl E, hS, .refl E st, hy⟩
  · obtain ⟨y, hy, hcl⟩ := hg con ls ro args st v hv E w xs hS hx
    obtain ⟨fn, g1, g2, g3⟩ := hasFn_inv hfn
    rw [callFunc_enter (P := P) g1 g2 g3]
    show CallsIn (FW none) 0 P f xs.toArray w _
    refine (callsIn_wide.2 hcl).mono fun e w' he => ?_
    obtain ⟨rfl, hb⟩ := he
    exact ⟨v, st, E, R, List.prefix_rfl, hh, .refl E, hS.grown (Kept.of_below hb), .refl E st, hy⟩
theorem conOK_of {con : Tr Con} {ls : Tr LSpec} {ro : Tr (Tr AV)} (h : ∀ f c, con.get f = some c → ConCl P hm glob w0 f c) : ConOK P hm con glob w0 Θ ls ro :=
  conOK_at fun f c hc => (h f c hc).at
theorem conCl_nil : ∀ (f : Nat) (c : Con), (Tr.nil : Tr Con).get f = some c → ConCl P hm glob w0 f c := fun f c h => by simp at h
theorem conCl_set {con : Tr Con} {f : FuncId} {c : Con} (hg : ConCl P hm glob w0 f c) (h : ∀ f c, con.get f = some c → ConCl P hm glob w0 f c) : ∀ f' c', (con.set f (some c)).get f' = some c' → ConCl P hm glob w0 f' c' := by
  intro f' c' hc
  by_cases e : f' = f
  · subst e
    rw [Tr.get_set_same] at hc
    cases hc
    exact hg
  · rw [Tr.get_set_other _ _ (fun h => e h.symm)] at hc
    exact h f' c' hc

/-! ### A function of nothing that returns what is known -/
noncomputable def isValK (v : AV) : Res → VC
  | .val x _ => bif_ (AV.same x v) .ok .bad
  | _ => .bad
noncomputable def constG (v : AV) : List AV → St → Option AV
  | [], _ => some v
  | _, _ => none
theorem res_const {con : Tr Con} {ls : Tr LSpec} {n f : Nat} {v : AV} (h : (runX P con glob n (.call f []) (isValK v) ls).triv = true) (hfn : hasFn P f = true) (hv : ∃ y, ∀ E, v.den E = some y) (hg : GlobOK glob w0)
    (hcon : ∀ w, Kept (· < w0.heap.size) w0 w → ConOK P hm con glob w (fun _ _ => True) ls) : ResOK P hm glob w0 f (constG v) := by
  intro con' ls' ro' args st v' ha E w xs hS hx
  unfold constG at ha
  split at ha
  · cases ha
    obtain ⟨y, hy⟩ := hv
    have hxs := denL_nil.1 hx
    subst hxs
    refine ⟨y, hy E, (calls_of_run hm (hg.kept hS.kept) (hcon w hS.kept) (triv_holds h) hfn).mono fun e w' ⟨r, he, ho⟩ => ?_⟩
    obtain ⟨v', st', E', R', _, h2, _, h4, _, h6⟩ := ho
    have h2 : (bif_ (AV.same v' v) .ok .bad : VC).holds (fun _ _ => True) E'.va R' := h2
    cases e2 : AV.same v' v with
    | false => rw [e2] at h2; exact h2.elim
    | true =>
      rw [same_eq _ _ e2, hy E'] at h6
      cases h6
      exact ⟨he, Kept.below h4.kept⟩
  · cases ha
end
end Go.Sy
/-! Contracts of functions of bytes: what is returned hangs on the bytes alone, memory stays. -/
namespace Go.Sy
open Go.RowKit (Below)
/-- Of whatever bytes, in whatever memory, the function returns F of them; what was there stays as it was. -/
def BytesSpec (P : Program) (f : FuncId) (F : List Nat → AV) : Prop :=
  ∀ (w : World) (ad : Option Addr) (n c : Nat) (l : List Nat), n ≤ c → l.length = n → (∀ m ∈ l, m < 256) →
    (match ad with
      | none => n = 0 ∧ c = 0
      | some a => ∀ (i m : Nat), l[i]? = some m → w.cell? (a.add i) = some (.int .u8 m)) →
    ∃ y, (∀ E, (F l).den E = some y) ∧ Calls P f #[.slice ad n c] w fun e w' => e = .returned y ∧ Below w.heap.size w w'
noncomputable def cxG (glob : Tr (Tr AV)) : Cx := { eqm := .nil, und := .nil, size := .nil, zero := .nil, fns := .nil, glob := glob, con := .nil }
theorem cellsFrom_cxG {P : Program} {hm : P.follows .mixedOrders = true} {con : Tr Con} {glob : Tr (Tr AV)} {ls : Tr LSpec} {ro : Tr (Tr AV)} {st : St} {n off : Nat} {b : Bid} {l : List AV} (h : cellsFrom (cxG glob) st n off b = some l) : cellsFrom (tabs P hm con glob ls ro).cx st n off b = some l := by
  cases b with
  | g n => exact h
  | r n => exact h
  | a n => obtain ⟨t, ht, _⟩ := obind_inv h; simp [cxG] at ht
noncomputable def bytesG (glob : Tr (Tr AV)) (F : List Nat → AV) : List AV → St → Option AV
  | [.slice none _ _], _ => some (F [])
  | [.sl0 ..], _ => some (F [])
  | [.slice (some a) n _], st => obind (cellsFrom (cxG glob) st n a.off a.b) fun l => obind (cellNats l) fun l => some (F l)
  | _, _ => none
section
variable {P : Program} {hm : P.follows .mixedOrders = true} {glob : Tr (Tr AV)} {w0 : World}
theorem res_bytes {f : FuncId} {F : List Nat → AV} (hg : GlobOK glob w0) (h : BytesSpec P f F) : ResOK P hm glob w0 f (bytesG glob F) := by
  intro con ls ro args st v ha E w xs hS hx
  unfold bytesG at ha
  split at ha
  · cases ha
    obtain ⟨x, xs', h1, h2, rfl⟩ := denL_cons.1 hx
    rw [denL_nil.1 h2]
    rename_i n c
    cases c with
    | k c =>
      have h1 : (if n = 0 ∧ c = 0 then some (Value.slice none 0 0) else none) = some x := by simpa [AV.den] using h1
      split at h1
      · cases h1
        obtain ⟨y, h3, h4⟩ := h w none 0 0 [] (Nat.le_refl _) rfl (by simp) ⟨rfl, rfl⟩
        exact ⟨y, h3 E, h4⟩
      · cases h1
    | u i s => simp [AV.den] at h1
    | t c => simp [AV.den] at h1
  · cases ha
    rename_i a i n d
    obtain ⟨x, xs', h1, h2, rfl⟩ := denL_cons.1 hx
    rw [denL_nil.1 h2]
    simp only [AV.den] at h1
    split at h1
    · rename_i x' c h5 h6
      split at h1
      · cases h1
        obtain ⟨y, h3, h4⟩ := h w (some (if c = n then x' else x'.add d)) 0 (c - n) [] (Nat.zero_le _) rfl (by simp) (fun i m hi => by simp at hi)
        exact ⟨y, h3 E, h4⟩
      · cases h1
    · cases h1
  · rename_i a n c
    obtain ⟨l, hl, ha⟩ := obind_inv ha
    obtain ⟨ns, hns, ha⟩ := obind_inv ha
    cases ha
    obtain ⟨x, xs', h1, h2, rfl⟩ := denL_cons.1 hx
    rw [denL_nil.1 h2]
    simp only [AV.den] at h1
    split at h1
    · rename_i x' c' h5 h6
      split at h1
      · rename_i hle
        cases h1
        have hl' : cellsFrom (tabs P hm con glob ls ro).cx st n a.off a.b = some l := cellsFrom_cxG hl
        obtain ⟨ys, g1, g2, _, g4⟩ := cells_sound (cxOf_ok P hm con hg) hS hl' (ad := x') h5
        rw [cellNats_inv hns] at g1
        obtain ⟨k1, k2⟩ := bytes_lt g1
        subst k2
        obtain ⟨y, h3, h4⟩ := h w (some x') n c' ns hle (by simpa using g2) k1 (fun i m hi => g4 i _ (by simp [hi]))
        exact ⟨y, h3 E, h4⟩
      · cases h1
    · cases h1
  · cases ha
end
end Go.Sy
/-! Contracts of functions without a text. -/
namespace Go.Sy
open Go.Proofs (sub64Entry run_sub64)
noncomputable def sub64G : List AV → St → Option AV
  | [.int .u64 x, .int .u64 y, .int .u64 b], _ => bif_ (Nat.ble b 1) (some (.tuple [.int .u64 (Nat.mod (Nat.sub (Nat.sub (Nat.add x 18446744073709551616) y) b) 18446744073709551616), .int .u64 (bif_ (Nat.blt x (Nat.add y b)) 1 0)])) none
  | _, _ => none
theorem den_u64 {E : Env} {x : Nat} (h : x < 18446744073709551616) : AV.den E (.int .u64 x) = some (.int .u64 (x : Int)) := by
  rw [den_int_of (k := .u64) h, sgn_nat .u64 h]
theorem den_u64_inv {E : Env} {x : Nat} {v : Value} (h : AV.den E (.int .u64 x) = some v) : x < 18446744073709551616 ∧ v = .int .u64 (x : Int) := by
  obtain ⟨h1, rfl⟩ := den_int h
  exact ⟨h1, by rw [sgn_nat .u64 h1]⟩
theorem sub64_ok {P : Program} {f : FuncId} {fn : Func} (hf : P.funcs[f]? = some fn) (hname : (fn.name == "runtime.NumGoroutine") = false) (hb : fn.body.isNone = true) (hn : Extern.findNext fn = none) (he : Extern.find fn = some sub64Entry) : ExtOK P f sub64G := by
  intro args st v ha E w xs hx
  unfold sub64G at ha
  split at ha
  · rename_i x y b
    obtain ⟨hb1, ha⟩ := bif_some ha
    cases ha
    obtain ⟨v1, r1, h1, hr1, rfl⟩ := denL_cons.1 hx
    obtain ⟨v2, r2, h2, hr2, rfl⟩ := denL_cons.1 hr1
    obtain ⟨v3, r3, h3, hr3, rfl⟩ := denL_cons.1 hr2
    rw [denL_nil.1 hr3]
    obtain ⟨l1, rfl⟩ := den_u64_inv h1
    obtain ⟨l2, rfl⟩ := den_u64_inv h2
    obtain ⟨l3, rfl⟩ := den_u64_inv h3
    have hb1 : b ≤ 1 := Nat.le_of_ble_eq_true hb1
    refine ⟨_, ?_, by
      rw [run_callFunc_extern hf hname hb hn he]
      rw [show ([Value.int .u64 (x : Int), .int .u64 (y : Int), .int .u64 (b : Int)].toArray) = #[.int .u64 (x : Int), .int .u64 (y : Int), .int .u64 (b : Int)] from rfl, run_sub64 x y b hb1]
      rfl⟩
    have e1 : bif_ (Nat.blt x (Nat.add y b)) 1 0 = (if x < y + b then 1 else 0 : Nat) := by
      cases c : Nat.blt x (Nat.add y b) with
      | true =>
        rw [Nat.blt_eq] at c
        rw [if_pos (show x < y + b from c)]; rfl
      | false =>
        have c' : ¬ x < y + b := fun h => by
          have : Nat.blt x (Nat.add y b) = true := by rw [Nat.blt_eq]; exact h
          rw [this] at c; cases c
        rw [if_neg c']; rfl
    rw [e1]
    have d1 : AV.den E (.int .u64 (Nat.mod (Nat.sub (Nat.sub (Nat.add x 18446744073709551616) y) b) 18446744073709551616)) = some (.int .u64 (((x + 18446744073709551616 - y - b) % 18446744073709551616 : Nat) : Int)) := den_u64 (Nat.mod_lt _ (by decide))
    have d2 : AV.den E (.int .u64 (if x < y + b then 1 else 0 : Nat)) = some (.int .u64 ((if x < y + b then 1 else 0 : Nat) : Int)) := den_u64 (by split <;> decide)
    rw [AV.den, denL, d1, denL, d2, denL]
    rfl
  · cases ha
end Go.Sy
/-! Contracts of functions of whole numbers: which of some values is returned is said by formulas. -/
namespace Go.Sy
open Go.RowKit (Below)

/-! ### Formulas over the arguments' numbers -/
noncomputable def okF (nz : Nat) : T → Bool
  | .bl _ => true
  | .cmp op x y => (isCmp op && simpT nz x) && simpT nz y
  | .and x y => okF nz x && okF nz y
  | .not x => okF nz x
  | _ => false
noncomputable def sbT (ts : List T) : T → T
  | .z n => .z n
  | .zv i => Option.rec (.bl false) (fun t => t) (getL i ts)
  | .bl b => .bl b
  | .cmp op x y => .cmp op (sbT ts x) (sbT ts y)
  | .and x y => .and (sbT ts x) (sbT ts y)
  | .not x => .not (sbT ts x)
  | _ => .bl false
theorem okF_ev {zs : List Int} : ∀ {φ : T}, okF zs.length φ = true → ∃ b, φ.ev ⟨zs, []⟩ = some (.b b) := by
  intro φ
  induction φ with
  | bl b => exact fun _ => ⟨b, rfl⟩
  | cmp op x y _ _ => exact fun h => zcOK_ev (c := .cmp op x y) h
  | and x y ih1 ih2 =>
    intro h
    have h : (okF zs.length x && okF zs.length y) = true := h
    rw [Bool.and_eq_true] at h
    obtain ⟨a, ha⟩ := ih1 h.1
    obtain ⟨b, hb⟩ := ih2 h.2
    exact ⟨a && b, by simp only [T.ev, ha, hb]⟩
  | not x ih =>
    intro h
    obtain ⟨a, ha⟩ := ih h
    exact ⟨!a, by simp only [T.ev, ha]⟩
  | _ => intro h; cases h
theorem evL_get {ρ : Va} : ∀ {ts : List T} {zs : List Int}, evL ρ ts = some (zs.map .i) → ∀ {i : Nat} {n : Int}, zs[i]? = some n → ∃ t, ts[i]? = some t ∧ t.ev ρ = some (.i n)
  | [], zs, h, i, n, hi => by
    have : zs = [] := by cases zs with | nil => rfl | cons z zs => cases h
    subst this; simp at hi
  | t :: ts, [], h, i, n, hi => by simp at hi
  | t :: ts, z :: zs, h, i, n, hi => by
    simp only [evL] at h
    cases ht : t.ev ρ with
    | none => simp [ht] at h
    | some d =>
      cases hl : evL ρ ts with
      | none => simp [ht, hl] at h
      | some l =>
        simp only [ht, hl, List.map_cons, Option.some.injEq, List.cons.injEq] at h
        obtain ⟨rfl, h2⟩ := h
        cases i with
        | zero => simp at hi; subst hi; exact ⟨t, rfl, ht⟩
        | succ i =>
          obtain ⟨u, h3, h4⟩ := evL_get (ts := ts) (zs := zs) (by rw [hl, h2]) (i := i) (n := n) (by simpa using hi)
          exact ⟨u, by simpa using h3, h4⟩
theorem sb_simp {ρ : Va} {ts : List T} {zs : List Int} (hts : evL ρ ts = some (zs.map .i)) {x : T} {n : Int} (h : simpT zs.length x = true) (hx : x.ev ⟨zs, []⟩ = some (.i n)) : (sbT ts x).ev ρ = some (.i n) := by
  cases x with
  | z m => exact hx
  | zv i =>
    have hz : zs[i]? = some n := by simpa [T.ev] using hx
    obtain ⟨t, h1, h2⟩ := evL_get hts hz
    show (Option.rec (T.bl false) (fun t => t) (getL i ts) : T).ev ρ = _
    rw [getL_eq, h1]; exact h2
  | _ => cases h
theorem sb_ev {ρ : Va} {ts : List T} {zs : List Int} (hts : evL ρ ts = some (zs.map .i)) : ∀ {φ : T} {b : Bool}, okF zs.length φ = true → φ.ev ⟨zs, []⟩ = some (.b b) → (sbT ts φ).ev ρ = some (.b b) := by
  intro φ
  induction φ with
  | bl b => exact fun _ h => h
  | cmp op x y _ _ =>
    intro b h hb
    have h : ((isCmp op && simpT zs.length x) && simpT zs.length y) = true := h
    rw [Bool.and_eq_true, Bool.and_eq_true] at h
    obtain ⟨n, m, h1, h2, h3⟩ := cmp_inv hb
    show (T.cmp op (sbT ts x) (sbT ts y)).ev ρ = _
    rw [cmp_ev (sb_simp hts h.1.2 h1) (sb_simp hts h.2 h2), h3]; rfl
  | and x y ih1 ih2 =>
    intro b h hb
    have h : (okF zs.length x && okF zs.length y) = true := h
    rw [Bool.and_eq_true] at h
    obtain ⟨p, q, h1, h2, h3⟩ := and_inv hb
    subst h3
    show (T.and (sbT ts x) (sbT ts y)).ev ρ = _
    simp only [T.ev, ih1 h.1 h1, ih2 h.2 h2]
  | not x ih =>
    intro b h hb
    have hb' := not_inv hb
    show (T.not (sbT ts x)).ev ρ = _
    simp only [T.ev, ih h hb', Bool.not_not]
  | _ => intro b h; cases h

/-! ### Which of the values it is -/
def treeVal (ρ : Va) (d : AV) : List (T × AV) → AV → Prop
  | [], v => v = d
  | p :: r, v => (p.1.ev ρ = some (.b true) ∧ v = p.2) ∨ (p.1.ev ρ = some (.b false) ∧ treeVal ρ d r v)
noncomputable def orB (c d : T) : T :=
  match d with
  | .bl true => .bl true
  | .bl false => c
  | d => .not (.and (.not c) (.not d))
noncomputable def treeT (d v : AV) : List (T × AV) → T
  | [] => .bl (AV.same v d)
  | p :: r => Bool.rec (andT (.not p.1) (treeT d v r)) (orB p.1 (treeT d v r)) (AV.same v p.2)
noncomputable def constV : AV → Bool
  | .bool _ => true
  | .int _ _ => true
  | _ => false
noncomputable def okTree (nz : Nat) (d : AV) : List (T × AV) → Bool
  | [] => constV d
  | p :: r => okF nz p.1 && (constV p.2 && okTree nz d r)
theorem orB_ok {ρ : Va} {c d : T} {p q : Prop} (hc : TB ρ c p) (hd : TB ρ d q) : TB ρ (orB c d) (p ∨ q) := by
  obtain ⟨r, h1, h2⟩ := hc
  obtain ⟨s, h3, h4⟩ := hd
  unfold orB
  split
  · cases h3; exact .bl (by simp [← h4])
  · cases h3; exact ⟨r, h1, by rw [h2]; simp [← h4]⟩
  · refine ⟨!(!r && !s), by simp only [T.ev, h1, h3], ?_⟩
    rw [← h2, ← h4]; cases r <;> cases s <;> simp
theorem not_TB {ρ : Va} {c : T} {p : Prop} (hc : TB ρ c p) : TB ρ (.not c) (¬ p) := by
  obtain ⟨r, h1, h2⟩ := hc
  exact ⟨!r, by simp only [T.ev, h1], by rw [← h2]; cases r <;> simp⟩
theorem okF_TB {zs : List Int} {φ : T} (h : okF zs.length φ = true) : TB ⟨zs, []⟩ φ (φ.ev ⟨zs, []⟩ = some (.b true)) := by
  obtain ⟨b, hb⟩ := okF_ev h
  exact ⟨b, hb, by rw [hb]; simp⟩
theorem TB.imp {ρ : Va} {c : T} {p q : Prop} (h : TB ρ c p) (hpq : p ↔ q) : TB ρ c q := let ⟨r, h1, h2⟩ := h; ⟨r, h1, h2.trans hpq⟩
theorem treeT_ok {zs : List Int} {d v : AV} : ∀ {tr : List (T × AV)}, okTree zs.length d tr = true → ∃ r, (treeT d v tr).ev ⟨zs, []⟩ = some (.b r) ∧ (r = true → treeVal ⟨zs, []⟩ d tr v)
  | [], _ => ⟨AV.same v d, rfl, fun h => same_eq _ _ h⟩
  | p :: r, h => by
    have h : (okF zs.length p.1 && (constV p.2 && okTree zs.length d r)) = true := h
    simp only [Bool.and_eq_true] at h
    obtain ⟨h1, _, h3⟩ := h
    obtain ⟨s, e1, e2⟩ := treeT_ok (v := v) h3
    have hd : TB ⟨zs, []⟩ (treeT d v r) (s = true) := ⟨s, e1, Iff.rfl⟩
    show ∃ r', (Bool.rec (andT (.not p.1) (treeT d v r)) (orB p.1 (treeT d v r)) (AV.same v p.2) : T).ev ⟨zs, []⟩ = some (.b r') ∧ _
    cases e : AV.same v p.2 with
    | true =>
      have hv := same_eq _ _ e
      obtain ⟨u, u1, u2⟩ := orB_ok (okF_TB h1) hd
      refine ⟨u, u1, fun hu => ?_⟩
      obtain ⟨b, hb⟩ := okF_ev h1
      cases b with
      | true => exact .inl ⟨hb, hv⟩
      | false =>
        rcases u2.1 hu with h | h
        · rw [h] at hb; cases hb
        · exact .inr ⟨hb, e2 h⟩
    | false =>
      obtain ⟨u, u1, u2⟩ := andT_ok (not_TB (okF_TB h1)) hd
      refine ⟨u, u1, fun hu => ?_⟩
      obtain ⟨h4, h5⟩ := u2.1 hu
      obtain ⟨b, hb⟩ := okF_ev h1
      cases b with
      | true => exact absurd hb h4
      | false => exact .inr ⟨hb, e2 h5⟩
theorem const_den {v : AV} {E : Env} {y : Value} (h : constV v = true) (hv : v.den E = some y) : ∀ E', v.den E' = some y := by
  intro E'
  cases v <;> first | cases h; done | skip
  · simpa [AV.den] using hv
  · simpa [AV.den] using hv
theorem tree_const {ρ : Va} {nz : Nat} {d v : AV} : ∀ {tr : List (T × AV)}, okTree nz d tr = true → treeVal ρ d tr v → constV v = true
  | [], h, hv => by cases hv; exact h
  | p :: r, h, hv => by
    have h : (okF nz p.1 && (constV p.2 && okTree nz d r)) = true := h
    simp only [Bool.and_eq_true] at h
    rcases hv with ⟨_, rfl⟩ | ⟨_, hv⟩
    · exact h.2.1
    · exact tree_const h.2.2 hv

/-! ### The arguments -/
noncomputable def cellT : Ck → AV → Option T
  | .i k => fun v => obind (toT v) fun p => bif_ (kbeq p.1 k) (some p.2) none
  | .b => fun v => match v with
    | .bool b => some (.z (.ofNat (bif_ b 1 0)))
    | _ => none
noncomputable def cellsT : List Ck → List AV → Option (List T)
  | [], [] => some []
  | c :: cs, v :: vs => obind (cellT c v) fun t => obind (cellsT cs vs) fun r => some (t :: r)
  | _, _ => none
noncomputable def argT : List Sh → List AV → Option (List T)
  | [], [] => some []
  | .one c :: ss, v :: vs => obind (cellT c v) fun t => obind (argT ss vs) fun r => some (t :: r)
  | .agg cs :: ss, .agg l :: vs => obind (cellsT cs l) fun a => obind (argT ss vs) fun r => some (a ++ r)
  | _, _ => none
theorem cellT_ok {E : Env} {c : Ck} {v : AV} {t : T} {x : Value} (h : cellT c v = some t) (hx : v.den E = some x) : ∃ n, t.ev E.va = some (.i n) ∧ c.fits x n := by
  cases c with
  | b =>
    cases v <;> first | (cases h; done) | skip
    rename_i b
    cases h
    cases hx
    exact ⟨_, rfl, by cases b <;> rfl⟩
  | i k =>
    obtain ⟨p, hp, h⟩ := obind_inv h
    obtain ⟨e, h⟩ := bif_some h
    cases h
    obtain ⟨n, h1, h2, h3⟩ := toT_inv hp (okv_of hx)
    have := h3 E x (.refl E) hx
    rw [← kbeq_eq e]
    exact ⟨n, h1, this, h2⟩
theorem cellsT_ok {E : Env} : ∀ {cs : List Ck} {vs : List AV} {ts : List T} {xs : List Value}, cellsT cs vs = some ts → denL E vs = some xs → ∃ zs, evL E.va ts = some (zs.map .i) ∧ fitL cs xs zs
  | [], [], ts, xs, h, hx => by cases h; rw [denL_nil.1 hx]; exact ⟨[], rfl, trivial⟩
  | c :: cs, v :: vs, ts, xs, h, hx => by
    obtain ⟨t, ht, h⟩ := obind_inv h
    obtain ⟨r, hr, h⟩ := obind_inv h
    cases h
    obtain ⟨x, xs', h1, h2, rfl⟩ := denL_cons.1 hx
    obtain ⟨n, e1, e2⟩ := cellT_ok ht h1
    obtain ⟨zs, e3, e4⟩ := cellsT_ok hr h2
    exact ⟨n :: zs, by simp [evL, e1, e3], e2, e4⟩
  | [], _ :: _, _, _, h, _ => by cases h
  | _ :: _, [], _, _, h, _ => by cases h
theorem argT_ok {E : Env} : ∀ {ss : List Sh} {vs : List AV} {ts : List T} {xs : List Value}, argT ss vs = some ts → denL E vs = some xs → ∃ zs, evL E.va ts = some (zs.map .i) ∧ argsFit ss xs zs
  | [], [], ts, xs, h, hx => by cases h; rw [denL_nil.1 hx]; exact ⟨[], rfl, trivial⟩
  | .one c :: ss, v :: vs, ts, xs, h, hx => by
    simp only [argT] at h
    obtain ⟨t, ht, h⟩ := obind_inv h
    obtain ⟨r, hr, h⟩ := obind_inv h
    cases h
    obtain ⟨x, xs', h1, h2, rfl⟩ := denL_cons.1 hx
    obtain ⟨n, e1, e2⟩ := cellT_ok ht h1
    obtain ⟨zs, e3, e4⟩ := argT_ok hr h2
    exact ⟨n :: zs, by simp [evL, e1, e3], [n], zs, rfl, ⟨n, rfl, e2⟩, e4⟩
  | .agg cs :: ss, v :: vs, ts, xs, h, hx => by
    cases v <;> simp only [argT] at h <;> first | cases h; done | skip
    rename_i l
    obtain ⟨a, ha, h⟩ := obind_inv h
    obtain ⟨r, hr, h⟩ := obind_inv h
    cases h
    obtain ⟨x, xs', h1, h2, rfl⟩ := denL_cons.1 hx
    obtain ⟨ys, hys, rfl⟩ := den_agg h1
    obtain ⟨z1, e1, e2⟩ := cellsT_ok ha hys
    obtain ⟨z2, e3, e4⟩ := argT_ok hr h2
    exact ⟨z1 ++ z2, by rw [List.map_append]; exact evL_append e1 e3, z1, z2, rfl, ⟨ys, rfl, e2⟩, e4⟩
  | [], _ :: _, _, _, h, _ => by cases h
  | .one c :: ss, [], _, _, h, _ => by cases h
  | .agg cs :: ss, [], _, _, h, _ => by cases h

/-! ### The contract -/
abbrev nzOf (ss : List Sh) : Nat := (ss.flatMap Sh.cs).length
noncomputable def goTree (ts : List T) (d : AV) (k : Kt) : List (T × AV) → St → VC
  | [], st => k d st
  | p :: r, st => brK (sbT ts p.1) st (fun st => k p.2 st) (fun st => goTree ts d k r st)
noncomputable def conTree (ss : List Sh) (d : AV) (tr : List (T × AV)) : Con := fun args st k => vbind (argT ss args) fun ts => goTree ts d k tr st
noncomputable def isTree (d : AV) (tr : List (T × AV)) : Res → VC
  | .val (.cnd c) st => brK c st (fun st => needK (treeT d (.bool true) tr) st fun _ => .ok) (fun st => needK (treeT d (.bool false) tr) st fun _ => .ok)
  | .val v st => needK (treeT d v tr) st fun _ => .ok
  | _ => .bad
section
variable {P : Program}
/-- What is returned, of whatever numbers. -/
def TreeSpec (P : Program) (glob : Tr (Tr AV)) (f : FuncId) (ss : List Sh) (d : AV) (tr : List (T × AV)) : Prop :=
  ∀ (zs : List Int) (W : World) (xs : List Value), zs.length = nzOf ss → FOK ⟨zs, []⟩ (facts 0 ss) → denL (EZ zs) (tmpls 0 ss) = some xs → GlobOK glob W →
    Calls P f xs.toArray W fun e w' => ∃ v y, treeVal ⟨zs, []⟩ d tr v ∧ (∀ E, v.den E = some y) ∧ e = .returned y ∧ Below W.heap.size W w'
theorem tree_spec {hm : P.follows .mixedOrders = true} {con : Tr Con} {glob : Tr (Tr AV)} {n f : Nat} {ss : List Sh} {d : AV} {tr : List (T × AV)} {ls : Tr LSpec} {fs : List T} (h : (runS P con glob n (nzOf ss) fs (.call f (tmpls 0 ss)) (isTree d tr) ls).triv = true) (hfs : subF fs (facts 0 ss) = true)
    (hok : okTree (nzOf ss) d tr = true) (hfn : hasFn P f = true) (hcon : ∀ w Θ, GlobOK glob w → ConOK P hm con glob w Θ ls) : TreeSpec P glob f ss d tr := by
  intro zs W xs hz hf hd hg
  have hf : FOK ⟨zs, []⟩ fs := fun c hc => hf c (subF_mem hfs c hc)
  have h := triv_holds (Θ := fun _ _ => True) (ρ := ⟨zs, []⟩) (R := []) h
  rw [← hz] at h hok
  rw [runS_eq] at h
  refine (calls_of_runE (X := tabs P hm con glob ls) (cxOf_ok P hm con hg) (cxOf_fns (hcon W (fun _ _ => True) hg)) (E := EZ zs) (R := []) (stS_rel rfl W hf) hd h hfn).mono fun e w' ⟨y, he, ho⟩ => ?_
  obtain ⟨v', st', E', R', _, h2, h3, h4, _, h6⟩ := ho
  have fin : ∀ (v : AV) (st2 : St), (needK (treeT d v tr) st2 fun _ => .ok).holds (fun _ _ => True) E'.va R' → FOK E'.va st2.facts → v.den E' = some y → ∃ v y, treeVal ⟨zs, []⟩ d tr v ∧ (∀ E, v.den E = some y) ∧ e = .returned y ∧ Below W.heap.size W w' := by
    intro v st2 hh hf2 hv
    obtain ⟨r, e1, e2⟩ := treeT_ok (v := v) hok
    obtain ⟨hr, _⟩ := needK_inv hh hf2 (ev_mono h3.va e1)
    have ht := e2 hr
    exact ⟨v, y, ht, const_den (tree_const hok ht) hv, he, Kept.below h4.kept⟩
  unfold isTree at h2
  split at h2
  · rename_i c st e
    cases e
    obtain ⟨b, hb, rfl⟩ := den_cnd h6
    obtain ⟨f', hf', hh⟩ := brK_inv h2 h4.facts hb
    rcases hh with ⟨rfl, hh⟩ | ⟨rfl, hh⟩
    · exact fin (.bool true) _ hh (by rw [withF_facts]; exact hf') rfl
    · exact fin (.bool false) _ hh (by rw [withF_facts]; exact hf') rfl
  · rename_i v st _ e
    cases e
    exact fin _ _ h2 h4.facts h6
  · exact h2.elim
section
variable {hm : P.follows .mixedOrders = true} {glob : Tr (Tr AV)} {w0 : World} {Θ : Pred} {ls : Tr LSpec} {ro : Tr (Tr AV)}
theorem goTree_inv {E : Env} {R : List Back} {ts : List T} {zs : List Int} {d v : AV} {k : Kt} (hts : evL E.va ts = some (zs.map .i)) : ∀ {tr : List (T × AV)} {st : St}, okTree zs.length d tr = true → (goTree ts d k tr st).holds Θ E.va R → FOK E.va st.facts → treeVal ⟨zs, []⟩ d tr v →
    ∃ f, FOK E.va f ∧ (k v (st.withF f)).holds Θ E.va R
  | [], st, _, h, hf, hv => by cases hv; exact ⟨st.facts, hf, by rw [withF_self]; exact h⟩
  | p :: r, st, ho, h, hf, hv => by
    have ho : (okF zs.length p.1 && (constV p.2 && okTree zs.length d r)) = true := ho
    simp only [Bool.and_eq_true] at ho
    have h : (brK (sbT ts p.1) st (fun st => k p.2 st) (fun st => goTree ts d k r st)).holds Θ E.va R := h
    rcases hv with ⟨hb, rfl⟩ | ⟨hb, hv⟩
    · obtain ⟨f, hf', h⟩ := brK_inv h hf (sb_ev hts ho.1 hb)
      rcases h with ⟨_, h⟩ | ⟨e, _⟩
      · exact ⟨f, hf', h⟩
      · cases e
    · obtain ⟨f, hf', h⟩ := brK_inv h hf (sb_ev hts ho.1 hb)
      rcases h with ⟨e, _⟩ | ⟨_, h⟩
      · cases e
      · obtain ⟨g, hg, h⟩ := goTree_inv hts (tr := r) (st := st.withF f) ho.2.2 h (by rw [withF_facts]; exact hf') hv
        exact ⟨g, hg, by rw [withF_withF] at h; exact h⟩
theorem tree_at {f : FuncId} {ss : List Sh} {d : AV} {tr : List (T × AV)} (hs : TreeSpec P glob f ss d tr) (hok : okTree (nzOf ss) d tr = true) (hg : GlobOK glob w0) (hfn : hasFn P f = true) : ConAt P hm glob w0 Θ ls ro f (conTree ss d tr) := by
  intro con args st k E R w xs hS hx hh
  obtain ⟨ts, hts, hh⟩ := vbind_inv hh
  obtain ⟨zs, h1, h2⟩ := argT_ok hts hx
  obtain ⟨ws, hw⟩ := args_flat h2
  have hl : zs.length = nzOf ss := fitL_len hw
  obtain ⟨fn, g1, g2, g3⟩ := hasFn_inv hfn
  rw [callFunc_enter (P := P) g1 g2 g3]
  show CallsIn (FW none) 0 P f _ w _
  refine (callsIn_wide.2 (hs zs w xs hl (factL_ok hw fun i _ => by simp) (tmpls_den h2 fun i _ => by simp) (hg.kept hS.kept))).mono fun e w' ⟨v, y, hv, hy, he, hb⟩ => ?_
  subst he
  obtain ⟨f', hf', hk⟩ := goTree_inv (k := k) h1 (by rw [hl]; exact hok) hh hS.facts hv
  exact ⟨v, st.withF f', E, R, List.prefix_rfl, hk, .refl E, (hS.grown (Kept.of_below hb)).withF hf', hp_withF E st f', hy E⟩
end
end
end Go.Sy
/-! SHA-256's press, as words of numbers: what a row of names' equations comes to. -/
namespace Go.Sy
namespace Sha
/-- A term that stands for a word. -/
def Nv (ρ : Va) (t : T) (n : Nat) : Prop := t.ev ρ = some (.i (n : Int)) ∧ n < 4294967296
section
variable {ρ : Va} {x y : T} {a b : Nat}
theorem wrap_u32 (n : Nat) : IntKind.u32.wrap (n : Int) = ((n % 4294967296 : Nat) : Int) := by
  simp [IntKind.wrap, IntKind.signed, IntKind.bits]
theorem Nv.z {n : Nat} (h : n < 4294967296) : Nv ρ (.z (n : Int)) n := ⟨rfl, h⟩
theorem Nv.add (hx : Nv ρ x a) (hy : Nv ρ y b) : Nv ρ (.bin .add .u32 x y) (addN a b) := by
  refine ⟨?_, Nat.mod_lt _ (by decide)⟩
  simp only [T.ev, hx.1, hy.1, zar, Option.map_some]
  rw [show (a : Int) + b = ((a + b : Nat) : Int) by omega, wrap_u32]; rfl
theorem ofInt_nat (n : Nat) : BitVec.ofInt 32 (n : Int) = BitVec.ofNat 32 n := by
  apply BitVec.eq_of_toNat_eq; simp
theorem bv_and {a b : Nat} (ha : a < 4294967296) (hb : b < 4294967296) : (BitVec.ofInt IntKind.u32.bits (a : Int) &&& BitVec.ofInt IntKind.u32.bits (b : Int)).toNat = a &&& b := by
  show (BitVec.ofInt 32 (a : Int) &&& BitVec.ofInt 32 (b : Int)).toNat = a &&& b
  rw [ofInt_nat, ofInt_nat, BitVec.toNat_and, BitVec.toNat_ofNat, BitVec.toNat_ofNat, Nat.mod_eq_of_lt (b := 2 ^ 32) ha, Nat.mod_eq_of_lt (b := 2 ^ 32) hb]
theorem bv_or {a b : Nat} (ha : a < 4294967296) (hb : b < 4294967296) : (BitVec.ofInt IntKind.u32.bits (a : Int) ||| BitVec.ofInt IntKind.u32.bits (b : Int)).toNat = a ||| b := by
  show (BitVec.ofInt 32 (a : Int) ||| BitVec.ofInt 32 (b : Int)).toNat = a ||| b
  rw [ofInt_nat, ofInt_nat, BitVec.toNat_or, BitVec.toNat_ofNat, BitVec.toNat_ofNat, Nat.mod_eq_of_lt (b := 2 ^ 32) ha, Nat.mod_eq_of_lt (b := 2 ^ 32) hb]
theorem bv_xor {a b : Nat} (ha : a < 4294967296) (hb : b < 4294967296) : (BitVec.ofInt IntKind.u32.bits (a : Int) ^^^ BitVec.ofInt IntKind.u32.bits (b : Int)).toNat = a ^^^ b := by
  show (BitVec.ofInt 32 (a : Int) ^^^ BitVec.ofInt 32 (b : Int)).toNat = a ^^^ b
  rw [ofInt_nat, ofInt_nat, BitVec.toNat_xor, BitVec.toNat_ofNat, BitVec.toNat_ofNat, Nat.mod_eq_of_lt (b := 2 ^ 32) ha, Nat.mod_eq_of_lt (b := 2 ^ 32) hb]
theorem Nv.and (hx : Nv ρ x a) (hy : Nv ρ y b) : Nv ρ (.bin .and .u32 x y) (Nat.land a b) := by
  have hlt : a &&& b < 4294967296 := Nat.lt_of_le_of_lt Nat.and_le_left hx.2
  refine ⟨?_, hlt⟩
  simp only [T.ev, hx.1, hy.1, zar, Option.map_some]
  rw [bv_and hx.2 hy.2, wrap_u32, Nat.mod_eq_of_lt hlt]; rfl
theorem Nv.or (hx : Nv ρ x a) (hy : Nv ρ y b) : Nv ρ (.bin .or .u32 x y) (Nat.lor a b) := by
  have hlt : a ||| b < 4294967296 := Nat.or_lt_two_pow (n := 32) hx.2 hy.2
  refine ⟨?_, hlt⟩
  simp only [T.ev, hx.1, hy.1, zar, Option.map_some]
  rw [bv_or hx.2 hy.2, wrap_u32, Nat.mod_eq_of_lt hlt]; rfl
theorem Nv.xor (hx : Nv ρ x a) (hy : Nv ρ y b) : Nv ρ (.bin .xor .u32 x y) (Nat.xor a b) := by
  have hlt : a ^^^ b < 4294967296 := Nat.xor_lt_two_pow (n := 32) hx.2 hy.2
  refine ⟨?_, hlt⟩
  simp only [T.ev, hx.1, hy.1, zar, Option.map_some]
  rw [bv_xor hx.2 hy.2, wrap_u32, Nat.mod_eq_of_lt hlt]; rfl
theorem Nv.shl (hx : Nv ρ x a) (n : Nat) (hn : n ≤ 32) : Nv ρ (.bin .shl .u32 x (.z (n : Int))) (Nat.mod (Nat.shiftLeft a n) 4294967296) := by
  refine ⟨?_, Nat.mod_lt _ (by decide)⟩
  simp only [T.ev, hx.1, zar, IntKind.bits]
  rw [if_neg (by omega), show ((n : Int).toNat) = n by simp, Nat.min_eq_left hn, Option.map_some]
  rw [show (a : Int) * 2 ^ n = ((a <<< n : Nat) : Int) by rw [Nat.shiftLeft_eq]; push_cast; rfl, wrap_u32]; rfl
theorem Nv.shr (hx : Nv ρ x a) (n : Nat) (hn : n ≤ 32) : Nv ρ (.bin .shr .u32 x (.z (n : Int))) (Nat.shiftRight a n) := by
  have hlt : a >>> n < 4294967296 := Nat.lt_of_le_of_lt (Nat.shiftRight_le a n) hx.2
  refine ⟨?_, hlt⟩
  simp only [T.ev, hx.1, zar, IntKind.bits]
  rw [if_neg (by omega), show ((n : Int).toNat) = n by simp, Nat.min_eq_left hn, Option.map_some]
  rw [show (2 : Int) ^ n = ((2 ^ n : Nat) : Int) by push_cast; rfl]
  have : (a : Int).fdiv ((2 ^ n : Nat) : Int) = ((a / 2 ^ n : Nat) : Int) := by
    rw [Int.fdiv_eq_ediv_of_nonneg _ (Int.natCast_nonneg _)]; rfl
  rw [this, ← Nat.shiftRight_eq_div_pow]; rfl
theorem Nv.conv (hx : x.ev ρ = some (.i (a : Int))) (ha : a < 256) : Nv ρ (.conv .u32 x) a := by
  refine ⟨?_, by omega⟩
  simp only [T.ev, hx]
  rw [wrap_u32, Nat.mod_eq_of_lt (by omega)]
theorem Nv.cast (h : Nv ρ x a) (e : a = b) : Nv ρ x b := e ▸ h
end
/-- A way to write the words of a press. -/
structure Way where
  w0 : T → T → T → T → T
  w1 : T → T → T → T → T
  x : T → T → T → T → Nat → T → T
  y : T → T → T → T
structure Way.OK (W : Way) : Prop where
  w0 : ∀ {ρ : Va} {ta tb tc td : T} {a b c d : Nat}, ta.ev ρ = some (.i (a : Int)) → tb.ev ρ = some (.i (b : Int)) → tc.ev ρ = some (.i (c : Int)) → td.ev ρ = some (.i (d : Int)) → a < 256 → b < 256 → c < 256 → d < 256 → Nv ρ (W.w0 ta tb tc td) (w0N a b c d)
  w1 : ∀ {ρ : Va} {ta tb tc td : T} {a b c d : Nat}, Nv ρ ta a → Nv ρ tb b → Nv ρ tc c → Nv ρ td d → Nv ρ (W.w1 ta tb tc td) (w1N a b c d)
  x : ∀ {ρ : Va} {th te tf tg tw : T} {h e f g k w : Nat}, Nv ρ th h → Nv ρ te e → Nv ρ tf f → Nv ρ tg g → k < 4294967296 → Nv ρ tw w → Nv ρ (W.x th te tf tg k tw) (xN h e f g k w)
  y : ∀ {ρ : Va} {ta tb tc : T} {a b c : Nat}, Nv ρ ta a → Nv ρ tb b → Nv ρ tc c → Nv ρ (W.y ta tb tc) (yN a b c)

/-! ### The numbers of names -/
def aI : Nat → Nat
  | 0 => 3 | 1 => 2 | 2 => 1 | 3 => 0 | t + 4 => 136 + 2 * t
def eI : Nat → Nat
  | 0 => 7 | 1 => 6 | 2 => 5 | 3 => 4 | t + 4 => 137 + 2 * t
def eqT (i : Nat) (t : T) : T := .cmp .eql (.zv i) t
def wEq (W : Way) (i : Nat) : T := eqT (72 + i) (W.w0 (.zv (8 + 4 * i)) (.zv (9 + 4 * i)) (.zv (10 + 4 * i)) (.zv (11 + 4 * i)))
/-- Word 16 + i. -/
def wEq2 (W : Way) (i : Nat) : T := eqT (88 + i) (W.w1 (.zv (72 + i)) (.zv (73 + i)) (.zv (81 + i)) (.zv (86 + i)))
def xT (W : Way) (ks : Nat → Nat) (t : Nat) : T := W.x (.zv (eI t)) (.zv (eI (t + 3))) (.zv (eI (t + 2))) (.zv (eI (t + 1))) (ks t) (.zv (72 + t))
def rA (W : Way) (ks : Nat → Nat) (t : Nat) : T := eqT (aI (t + 4)) (.bin .add .u32 (xT W ks t) (W.y (.zv (aI (t + 3))) (.zv (aI (t + 2))) (.zv (aI (t + 1)))))
def rE (W : Way) (ks : Nat → Nat) (t : Nat) : T := eqT (eI (t + 4)) (.bin .add .u32 (.zv (aI t)) (xT W ks t))
structure Chain (W : Way) (ks : Nat → Nat) (l : List T) : Prop where
  w : ∀ i, i < 16 → wEq W i ∈ l
  w2 : ∀ i, i < 48 → wEq2 W i ∈ l
  a : ∀ t, t < 64 → rA W ks t ∈ l
  e : ∀ t, t < 64 → rE W ks t ∈ l
noncomputable def chW1 (W : Way) (n : Nat) : List T := Nat.rec (motive := fun _ => List T) [] (fun i ih => wEq W i :: ih) n
noncomputable def chW2 (W : Way) (n : Nat) : List T := Nat.rec (motive := fun _ => List T) (chW1 W 16) (fun i ih => wEq2 W i :: ih) n
noncomputable def chR (W : Way) (ks : Nat → Nat) (n : Nat) : List T := Nat.rec (motive := fun _ => List T) (chW2 W 48) (fun i ih => rE W ks i :: rA W ks i :: ih) n
theorem mem_chW1 (W : Way) : ∀ {n i : Nat}, i < n → wEq W i ∈ chW1 W n
  | n + 1, i, h => by
    show _ ∈ wEq W n :: chW1 W n
    by_cases e : i = n
    · rw [e]; exact List.mem_cons_self ..
    · exact List.mem_cons_of_mem _ (mem_chW1 W (by omega))
theorem sub_chW2 (W : Way) {c : T} : ∀ {n : Nat}, c ∈ chW1 W 16 → c ∈ chW2 W n
  | 0, h => h
  | n + 1, h => List.mem_cons_of_mem _ (sub_chW2 W (n := n) h)
theorem mem_chW2 (W : Way) : ∀ {n i : Nat}, i < n → wEq2 W i ∈ chW2 W n
  | n + 1, i, h => by
    show _ ∈ wEq2 W n :: chW2 W n
    by_cases e : i = n
    · rw [e]; exact List.mem_cons_self ..
    · exact List.mem_cons_of_mem _ (mem_chW2 W (by omega))
theorem sub_chR (W : Way) (ks : Nat → Nat) {c : T} : ∀ {n : Nat}, c ∈ chW2 W 48 → c ∈ chR W ks n
  | 0, h => h
  | n + 1, h => List.mem_cons_of_mem _ (List.mem_cons_of_mem _ (sub_chR W ks (n := n) h))
theorem mem_chR (W : Way) (ks : Nat → Nat) : ∀ {n i : Nat}, i < n → rA W ks i ∈ chR W ks n ∧ rE W ks i ∈ chR W ks n
  | n + 1, i, h => by
    show _ ∈ rE W ks n :: rA W ks n :: chR W ks n ∧ _ ∈ rE W ks n :: rA W ks n :: chR W ks n
    by_cases e : i = n
    · rw [e]; exact ⟨by simp, by simp⟩
    · have := mem_chR W ks (n := n) (i := i) (by omega)
      exact ⟨List.mem_cons_of_mem _ (List.mem_cons_of_mem _ this.1), List.mem_cons_of_mem _ (List.mem_cons_of_mem _ this.2)⟩
theorem chain_chR (W : Way) (ks : Nat → Nat) : Chain W ks (chR W ks 64) :=
  ⟨fun _ h => sub_chR W ks (sub_chW2 W (mem_chW1 W h)), fun _ h => sub_chR W ks (mem_chW2 W h), fun _ h => (mem_chR W ks h).1, fun _ h => (mem_chR W ks h).2⟩

/-! ### What they come to -/
theorem wsN_succ (n : Nat) (l : List Nat) : wsN (n + 1) l = wsN n (w1N (getD0 l 15) (getD0 l 14) (getD0 l 6) (getD0 l 1) :: l) := by
  show natK (w1N (getD0 l 15) (getD0 l 14) (getD0 l 6) (getD0 l 1)) (fun x => wsN n (x :: l)) = _; rw [natK_eq]
theorem getD0_eq (l : List Nat) (i : Nat) : getD0 l i = l.getD i 0 := by
  unfold getD0; rw [getL_eq]; rw [List.getD_eq_getElem?_getD]; cases l[i]? <;> rfl
/-- The first of a row's names are the row's, the newest first. -/
def Ws (ρ : Va) (base : Nat) (l : List Nat) : Prop := ∀ j (h : j < l.length), Nv ρ (.zv (base + j)) (l[l.length - 1 - j]'(by omega))
theorem eqT_val {ρ : Va} {i : Nat} {t : T} {n : Nat} (h : (eqT i t).ev ρ = some (.b true)) (ht : Nv ρ t n) : Nv ρ (.zv i) n := by
  obtain ⟨p, q, h1, h2, h3⟩ := cmp_inv h
  rw [ht.1] at h2; cases h2
  simp only [zcm, Option.some.injEq, decide_eq_true_eq] at h3
  subst h3
  exact ⟨h1, ht.2⟩
theorem Ws.cons {ρ : Va} {base : Nat} {l : List Nat} {x : Nat} (h : Ws ρ base l) (hx : Nv ρ (.zv (base + l.length)) x) : Ws ρ base (x :: l) := by
  intro j hj
  simp only [List.length_cons] at hj ⊢
  by_cases e : j = l.length
  · subst e
    have e0 : l.length + 1 - 1 - l.length = 0 := by omega
    simp only [e0, List.getElem_cons_zero]; exact hx
  · have hj' : j < l.length := by omega
    have := h j hj'
    have e2 : l.length + 1 - 1 - j = (l.length - 1 - j) + 1 := by omega
    simp only [e2, List.getElem_cons_succ]; exact this
theorem Ws.at {ρ : Va} {base : Nat} {l : List Nat} (h : Ws ρ base l) {j : Nat} (hj : j < l.length) : Nv ρ (.zv (base + (l.length - 1 - j))) (getD0 l j) := by
  have := h (l.length - 1 - j) (by omega)
  have e : l.length - 1 - (l.length - 1 - j) = j := by omega
  rw [getD0_eq]
  simp only [e] at this
  simpa [List.getD_eq_getElem?_getD, hj] using this
section
variable {W : Way} (hW : W.OK) {ks : Nat → Nat} (hks : ∀ t, t < 64 → ks t < 4294967296) {nm : List T} (hc : Chain W ks nm) {ρ : Va} (hf : FOK ρ nm)
include hW hc hf
theorem ws_all : ∀ (n i : Nat) (l : List Nat), i + n = 48 → l.length = 16 + i → Ws ρ 72 l → Ws ρ 72 (wsN n l) ∧ (wsN n l).length = 64
  | 0, i, l, hn, hl, h => ⟨h, by show l.length = 64; omega⟩
  | n + 1, i, l, hn, hl, h => by
    rw [wsN_succ]
    refine ws_all n (i + 1) _ (by omega) (by simp; omega) (h.cons ?_)
    have he := hf _ (hc.w2 i (by omega))
    have h15 := h.at (j := 15) (by omega)
    have h14 := h.at (j := 14) (by omega)
    have h6 := h.at (j := 6) (by omega)
    have h1 := h.at (j := 1) (by omega)
    rw [hl] at h15 h14 h6 h1 ⊢
    rw [show 72 + (16 + i - 1 - 15) = 72 + i by omega] at h15
    rw [show 72 + (16 + i - 1 - 14) = 73 + i by omega] at h14
    rw [show 72 + (16 + i - 1 - 6) = 81 + i by omega] at h6
    rw [show 72 + (16 + i - 1 - 1) = 86 + i by omega] at h1
    have := eqT_val he (hW.w1 h15 h14 h6 h1)
    rw [show 72 + (16 + i) = 88 + i by omega]; exact this
theorem w0s_all : ∀ (n i : Nat) (bs acc : List Nat), i + n = 16 → bs.length = 4 * n → acc.length = i → (∀ j (h : j < bs.length), ρ.z[8 + 4 * i + j]? = some ((bs[j] : Nat) : Int) ∧ bs[j] < 256) → Ws ρ 72 acc →
    Ws ρ 72 (w0sN n bs acc) ∧ (w0sN n bs acc).length = 16
  | 0, i, bs, acc, hn, hb, ha, h, hs => ⟨hs, by show acc.length = 16; omega⟩
  | n + 1, i, a :: b :: c :: d :: r, acc, hn, hb, ha, h, hs => by
    have e : w0sN (n + 1) (a :: b :: c :: d :: r) acc = w0sN n r (w0N a b c d :: acc) := by
      rw [w0sN, natK_eq]
    rw [e]
    have h0 := h 0 (by simp)
    have h1 := h 1 (by simp)
    have h2 := h 2 (by simp)
    have h3 := h 3 (by simp)
    refine w0s_all n (i + 1) r _ (by omega) (by simp at hb; omega) (by simp [ha]) (fun j hj => ?_) (hs.cons ?_)
    · have := h (j + 4) (by simp; omega)
      rw [show 8 + 4 * (i + 1) + j = 8 + 4 * i + (j + 4) by omega]
      simpa using this
    · have he := hf _ (hc.w i (by omega))
      rw [ha]
      refine eqT_val he (hW.w0 ?_ ?_ ?_ ?_ h0.2 h1.2 h2.2 h3.2)
      · simp only [T.ev]; rw [show 8 + 4 * i = 8 + 4 * i + 0 by omega, h0.1]; rfl
      · simp only [T.ev]; rw [show 9 + 4 * i = 8 + 4 * i + 1 by omega, h1.1]; rfl
      · simp only [T.ev]; rw [show 10 + 4 * i = 8 + 4 * i + 2 by omega, h2.1]; rfl
      · simp only [T.ev]; rw [show 11 + 4 * i = 8 + 4 * i + 3 by omega, h3.1]; rfl
  | n + 1, i, [], acc, hn, hb, _, _, _ => by simp at hb
  | n + 1, i, [_], acc, hn, hb, _, _, _ => by simp at hb; omega
  | n + 1, i, [_, _], acc, hn, hb, _, _, _ => by simp at hb; omega
  | n + 1, i, [_, _, _], acc, hn, hb, _, _, _ => by simp at hb; omega
omit hW hc hf in
theorem natK3 {β : Type} (n : Nat) (k : Nat → β) : natK n k = k n := natK_eq n k
end
/-! ### The rounds -/
theorem rndsN_cons (p : Nat × Nat) (kw : List (Nat × Nat)) (a b c d e f g h : Nat) (k) : rndsN (p :: kw) a b c d e f g h k = rndsN kw (addN (xN h e f g p.1 p.2) (yN a b c)) a b c (addN d (xN h e f g p.1 p.2)) e f g k := by
  show natK (xN h e f g p.1 p.2) (fun x => natK (addN x (yN a b c)) fun a' => natK (addN d x) fun e' => rndsN kw a' a b c e' e f g k) = _; rw [natK_eq, natK_eq, natK_eq]
structure Regs (ρ : Va) (t a b c d e f g h : Nat) : Prop where
  a : Nv ρ (.zv (aI (t + 3))) a
  b : Nv ρ (.zv (aI (t + 2))) b
  c : Nv ρ (.zv (aI (t + 1))) c
  d : Nv ρ (.zv (aI t)) d
  e : Nv ρ (.zv (eI (t + 3))) e
  f : Nv ρ (.zv (eI (t + 2))) f
  g : Nv ρ (.zv (eI (t + 1))) g
  h : Nv ρ (.zv (eI t)) h
theorem fin8_eq (l : List Nat) (k : List Nat → List Nat) : fin8 l k = k l := by
  induction l generalizing k with
  | nil => rfl
  | cons x l ih => show natK x (fun x => fin8 l fun r => k (x :: r)) = _; rw [natK_eq]; exact ih _
def outT (i : Nat) : T := .bin .add .u32 (.zv i) (.zv (match i with | 0 => 262 | 1 => 260 | 2 => 258 | 3 => 256 | 4 => 263 | 5 => 261 | 6 => 259 | _ => 257))
section
variable {W : Way} (hW : W.OK) {ks : Nat → Nat} (hks : ∀ t, t < 64 → ks t < 4294967296) {nm : List T} (hc : Chain W ks nm) {ρ : Va} (hf : FOK ρ nm)
include hW hks hc hf
theorem rnds_all : ∀ (kw : List (Nat × Nat)) (t a b c d e f g h : Nat) (k : Nat → Nat → Nat → Nat → Nat → Nat → Nat → Nat → List Nat), t + kw.length = 64 → (∀ j (hj : j < kw.length), (kw[j]).1 = ks (t + j) ∧ Nv ρ (.zv (72 + (t + j))) (kw[j]).2) → Regs ρ t a b c d e f g h →
    ∃ a' b' c' d' e' f' g' h', Regs ρ 64 a' b' c' d' e' f' g' h' ∧ rndsN kw a b c d e f g h k = k a' b' c' d' e' f' g' h'
  | [], t, a, b, c, d, e, f, g, h, k, hl, _, hr => by
    have : t = 64 := by simpa using hl
    subst this
    exact ⟨a, b, c, d, e, f, g, h, hr, rfl⟩
  | p :: kw, t, a, b, c, d, e, f, g, h, k, hl, hp, hr => by
    have ht : t < 64 := by simp at hl; omega
    have hp0 := hp 0 (by simp)
    simp only [List.getElem_cons_zero, Nat.add_zero] at hp0
    rw [rndsN_cons]
    have hx : Nv ρ (xT W ks t) (xN h e f g p.1 p.2) := by
      rw [hp0.1]
      exact hW.x hr.h hr.e hr.f hr.g (hks t ht) hp0.2
    have ha := eqT_val (hf _ (hc.a t ht)) (hx.add (hW.y hr.a hr.b hr.c))
    have he := eqT_val (hf _ (hc.e t ht)) (hr.d.add hx)
    refine rnds_all kw (t + 1) _ _ _ _ _ _ _ _ k (by simp at hl; omega) (fun j hj => ?_) ⟨ha, ?_, ?_, ?_, he, ?_, ?_, ?_⟩
    · have := hp (j + 1) (by simpa using hj)
      rw [show t + 1 + j = t + (j + 1) by omega]
      simpa using this
    · exact hr.a
    · exact hr.b
    · exact hr.c
    · exact hr.e
    · exact hr.f
    · exact hr.g
theorem press_all {s bs : List Nat} (hs : s.length = 8) (hb : bs.length = 64) (hsz : ∀ i (h : i < s.length), ρ.z[i]? = some ((s[i] : Nat) : Int) ∧ s[i] < 4294967296) (hbz : ∀ i (h : i < bs.length), ρ.z[8 + i]? = some ((bs[i] : Nat) : Int) ∧ bs[i] < 256) {kl : List Nat} (hkl : kl = (List.range 64).map ks) :
    (pressN kl s bs).length = 8 ∧ ∀ i (h : i < (pressN kl s bs).length), Nv ρ (outT i) ((pressN kl s bs)[i]) := by
  obtain ⟨g1, g2⟩ := w0s_all hW hc hf 16 0 bs [] (by omega) (by omega) rfl (fun j hj => by simpa using hbz j hj) (fun j hj => by simp at hj)
  obtain ⟨g3, g4⟩ := ws_all hW hc hf 48 0 _ (by omega) (by omega) g1
  match s, hs, hsz with
  | [s0, s1, s2, s3, s4, s5, s6, s7], _, hsz =>
    have z : ∀ i (h : i < [s0, s1, s2, s3, s4, s5, s6, s7].length), Nv ρ (.zv i) ([s0, s1, s2, s3, s4, s5, s6, s7][i]) := fun i h => ⟨by simp only [T.ev, (hsz i h).1]; rfl, (hsz i h).2⟩
    have n0 := z 0 (by simp)
    have n1 := z 1 (by simp)
    have n2 := z 2 (by simp)
    have n3 := z 3 (by simp)
    have n4 := z 4 (by simp)
    have n5 := z 5 (by simp)
    have n6 := z 6 (by simp)
    have n7 := z 7 (by simp)
    simp only [List.getElem_cons_zero, List.getElem_cons_succ] at n0 n1 n2 n3 n4 n5 n6 n7
    have hzl : (zipP kl (wsN 48 (w0sN 16 bs [])).reverse).length = 64 := by rw [zipP_eq, List.length_zip, hkl]; simp [g4]
    obtain ⟨a, b, c, d, e, f, g, h, hr, heq⟩ := rnds_all hW hks hc hf (zipP kl (wsN 48 (w0sN 16 bs [])).reverse) 0 s0 s1 s2 s3 s4 s5 s6 s7 (fun a b c d e f g h => fin8 [addN s0 a, addN s1 b, addN s2 c, addN s3 d, addN s4 e, addN s5 f, addN s6 g, addN s7 h] fun l => l) (by rw [hzl]) (fun j hj => by
      rw [hzl] at hj
      have e : (zipP kl (wsN 48 (w0sN 16 bs [])).reverse)[j]'(by rw [hzl]; exact hj) = (ks j, (wsN 48 (w0sN 16 bs []))[(wsN 48 (w0sN 16 bs [])).length - 1 - j]'(by rw [g4]; omega)) := by
        simp [zipP_eq, hkl]
      rw [e]
      refine ⟨by simp, ?_⟩
      have := g3 j (by rw [g4]; exact hj)
      simpa using this) ⟨n0, n1, n2, n3, n4, n5, n6, n7⟩
    have hp : pressN kl [s0, s1, s2, s3, s4, s5, s6, s7] bs = [addN s0 a, addN s1 b, addN s2 c, addN s3 d, addN s4 e, addN s5 f, addN s6 g, addN s7 h] := by
      show rndsN _ _ _ _ _ _ _ _ _ _ = _
      rw [heq, fin8_eq]
    rw [hp]
    refine ⟨rfl, fun i hi => ?_⟩
    match i, hi with
    | 0, _ => exact n0.add hr.a
    | 1, _ => exact n1.add hr.b
    | 2, _ => exact n2.add hr.c
    | 3, _ => exact n3.add hr.d
    | 4, _ => exact n4.add hr.e
    | 5, _ => exact n5.add hr.f
    | 6, _ => exact n6.add hr.g
    | 7, _ => exact n7.add hr.h
end
end Sha
end Go.Sy
/-! The two ways in which presses are written. -/
namespace Go.Sy
namespace Sha
section
variable {ρ : Va} {x y : T} {a b : Nat}
theorem w0_lt {a b c d : Nat} (ha : a < 256) (hb : b < 256) (hc : c < 256) (hd : d < 256) : w0N a b c d = a * 16777216 + b * 65536 + c * 256 + d ∧ a * 16777216 + b * 65536 + c * 256 + d < 4294967296 := by
  refine ⟨?_, by omega⟩
  show ((a <<< 24 ||| b <<< 16) ||| c <<< 8) ||| d = _
  rw [Nat.shiftLeft_eq, Nat.shiftLeft_eq, Nat.shiftLeft_eq]
  have p24 : (2 : Nat) ^ 24 = 16777216 := rfl
  have p16 : (2 : Nat) ^ 16 = 65536 := rfl
  have p8 : (2 : Nat) ^ 8 = 256 := rfl
  have h1 := Nat.two_pow_add_eq_or_of_lt (i := 24) (b := b * 65536) (by rw [p24]; omega) a
  have h2 := Nat.two_pow_add_eq_or_of_lt (i := 16) (b := c * 256) (by rw [p16]; omega) (a * 256 + b)
  have h3 := Nat.two_pow_add_eq_or_of_lt (i := 8) (b := d) (by rw [p8]; omega) (a * 65536 + b * 256 + c)
  rw [p24, Nat.mul_comm] at h1
  rw [p16] at h2
  rw [p8] at h3
  rw [p24, p16, p8, ← h1]
  rw [show a * 16777216 + b * 65536 = 65536 * (a * 256 + b) by omega, ← h2]
  rw [show 65536 * (a * 256 + b) + c * 256 = 256 * (a * 65536 + b * 256 + c) by omega, ← h3]
theorem rot_add {l r : Nat} (h : l + r = 32) (ha : a < 4294967296) : addN (Nat.shiftRight a r) (Nat.mod (Nat.shiftLeft a l) 4294967296) = rotN a l r := by
  have hr : a >>> r < 2 ^ l := by
    rw [Nat.shiftRight_eq_div_pow]
    refine Nat.div_lt_of_lt_mul ?_
    rw [← Nat.pow_add, Nat.add_comm, h]; exact ha
  have hm : (a <<< l) % 4294967296 = 2 ^ l * (a % 2 ^ r) := by
    rw [Nat.shiftLeft_eq, Nat.mul_comm, show (4294967296 : Nat) = 2 ^ l * 2 ^ r by rw [← Nat.pow_add, h], Nat.mul_mod_mul_left]
  have hlt : 2 ^ l * (a % 2 ^ r) + a >>> r < 4294967296 := by
    have h1 : a % 2 ^ r < 2 ^ r := Nat.mod_lt _ (Nat.two_pow_pos r)
    have h2 : 2 ^ l * (a % 2 ^ r + 1) ≤ 2 ^ l * 2 ^ r := Nat.mul_le_mul_left _ h1
    rw [← Nat.pow_add, h, Nat.mul_add] at h2
    omega
  show ((a >>> r) + (a <<< l) % 4294967296) % 4294967296 = ((a <<< l) % 4294967296) ||| (a >>> r)
  rw [hm, ← Nat.two_pow_add_eq_or_of_lt hr, Nat.add_comm, Nat.mod_eq_of_lt hlt]
theorem xor_ones (ha : a < 4294967296) : Nat.xor 4294967295 a = 4294967295 - a := by
  have h1 : (~~~ (BitVec.ofNat 32 a)).toNat = 2 ^ 32 - 1 - (BitVec.ofNat 32 a).toNat := BitVec.toNat_not
  have h2 : BitVec.allOnes 32 ^^^ BitVec.ofNat 32 a = ~~~ (BitVec.ofNat 32 a) := BitVec.allOnes_xor
  have h3 : (BitVec.allOnes 32 ^^^ BitVec.ofNat 32 a).toNat = (BitVec.allOnes 32).toNat ^^^ (BitVec.ofNat 32 a).toNat := BitVec.toNat_xor _ _
  rw [h2, h1, BitVec.toNat_allOnes, BitVec.toNat_ofNat, Nat.mod_eq_of_lt (b := 2 ^ 32) ha] at h3
  exact h3.symm
theorem Nv.mul (hx : Nv ρ x a) (n : Nat) : Nv ρ (.bin .mul .u32 x (.z (n : Int))) (Nat.mod (Nat.mul a n) 4294967296) := by
  refine ⟨?_, Nat.mod_lt _ (by decide)⟩
  simp only [T.ev, hx.1, zar, Option.map_some]
  rw [show (a : Int) * (n : Int) = ((a * n : Nat) : Int) by push_cast; rfl, wrap_u32]; rfl
theorem Nv.quo (hx : Nv ρ x a) (n k : Nat) (hn : n = 2 ^ k) : Nv ρ (.bin .quo .u32 x (.z (n : Int))) (Nat.shiftRight a k) := by
  have hlt : a >>> k < 4294967296 := Nat.lt_of_le_of_lt (Nat.shiftRight_le a k) hx.2
  have hn0 : (n : Int) ≠ 0 := by have := Nat.two_pow_pos k; omega
  refine ⟨?_, hlt⟩
  simp only [T.ev, hx.1, zar]
  rw [if_neg hn0, Option.map_some]
  rw [show (a : Int).tdiv (n : Int) = ((a / n : Nat) : Int) from rfl, wrap_u32]
  have : a / n = a >>> k := by rw [Nat.shiftRight_eq_div_pow, hn]
  rw [this, Nat.mod_eq_of_lt hlt]; rfl
theorem Nv.not (hx : Nv ρ x a) : Nv ρ (.bin .sub .u32 (.z 4294967295) x) (Nat.xor 4294967295 a) := by
  have := hx.2
  rw [xor_ones this]
  refine ⟨?_, by omega⟩
  simp only [T.ev, hx.1, zar, Option.map_some]
  rw [show (4294967295 : Int) - (a : Int) = ((4294967295 - a : Nat) : Int) by omega, wrap_u32, Nat.mod_eq_of_lt (by omega)]
end
def rotA (x : T) (l r : Nat) : T := .bin .or .u32 (.bin .shl .u32 x (.z (.ofNat l))) (.bin .shr .u32 x (.z (.ofNat r)))
def ad (x y : T) : T := .bin .add .u32 x y
def xo (x y : T) : T := .bin .xor .u32 x y
def an (x y : T) : T := .bin .and .u32 x y
def shrT (x : T) (n : Nat) : T := .bin .shr .u32 x (.z (.ofNat n))
def wayA : Way where
  w0 a b c d := .bin .or .u32 (.bin .or .u32 (.bin .or .u32 (.bin .shl .u32 (.conv .u32 a) (.z 24)) (.bin .shl .u32 (.conv .u32 b) (.z 16))) (.bin .shl .u32 (.conv .u32 c) (.z 8))) (.conv .u32 d)
  w1 w16 w15 w7 w2 := ad (ad (ad w16 (xo (xo (rotA w15 25 7) (rotA w15 14 18)) (shrT w15 3))) w7) (xo (xo (rotA w2 15 17) (rotA w2 13 19)) (shrT w2 10))
  x h e f g k w := ad (ad (ad (ad h (xo (xo (rotA e 26 6) (rotA e 21 11)) (rotA e 7 25))) (xo (an e f) (an (xo (.z 4294967295) e) g))) (.z (.ofNat k))) w
  y a b c := ad (xo (xo (rotA a 30 2) (rotA a 19 13)) (rotA a 10 22)) (xo (xo (an a b) (an a c)) (an b c))
theorem addN3 (a b c d : Nat) : addN (addN (addN a b) c) d = Nat.mod (Nat.add (Nat.add (Nat.add a b) c) d) 4294967296 := by
  show (((a + b) % 4294967296 + c) % 4294967296 + d) % 4294967296 = (a + b + c + d) % 4294967296
  omega
theorem addN4 (a b c d e : Nat) : addN (addN (addN (addN a b) c) d) e = Nat.mod (Nat.add (Nat.add (Nat.add (Nat.add a b) c) d) e) 4294967296 := by
  show ((((a + b) % 4294967296 + c) % 4294967296 + d) % 4294967296 + e) % 4294967296 = (a + b + c + d + e) % 4294967296
  omega
theorem rotA_ok {ρ : Va} {x : T} {a : Nat} (hx : Nv ρ x a) (l r : Nat) (hl : l ≤ 32) (hr : r ≤ 32) : Nv ρ (rotA x l r) (rotN a l r) := (hx.shl l hl).or (hx.shr r hr)
theorem wayA_ok : wayA.OK where
  w0 ha hb hc hd la lb lc ld := by
    have sh : ∀ {x n : Nat}, x < 256 → n ≤ 24 → Nat.mod (Nat.shiftLeft x n) 4294967296 = Nat.shiftLeft x n := fun {x n} hx hn => by
      refine Nat.mod_eq_of_lt ?_
      show x <<< n < 4294967296
      rw [Nat.shiftLeft_eq]
      have : 2 ^ n ≤ 2 ^ 24 := Nat.pow_le_pow_right (by decide) hn
      have h2 : x * 2 ^ n ≤ 255 * 2 ^ 24 := Nat.mul_le_mul (by omega) this
      omega
    have h := ((((Nv.conv ha la).shl 24 (by decide)).or ((Nv.conv hb lb).shl 16 (by decide))).or ((Nv.conv hc lc).shl 8 (by decide))).or (Nv.conv hd ld)
    rw [sh la (by decide), sh lb (by decide), sh lc (by decide)] at h
    exact h
  w1 h16 h15 h7 h2 := by
    have h := ((h16.add (((rotA_ok h15 25 7 (by decide) (by decide)).xor (rotA_ok h15 14 18 (by decide) (by decide))).xor (h15.shr 3 (by decide)))).add h7).add (((rotA_ok h2 15 17 (by decide) (by decide)).xor (rotA_ok h2 13 19 (by decide) (by decide))).xor (h2.shr 10 (by decide)))
    exact h.cast (addN3 _ _ _ _)
  x hh he hf hg hk hw := by
    have h := (((hh.add (((rotA_ok he 26 6 (by decide) (by decide)).xor (rotA_ok he 21 11 (by decide) (by decide))).xor (rotA_ok he 7 25 (by decide) (by decide)))).add ((he.and hf).xor ((((Nv.z (n := 4294967295) (by decide)).xor he).and hg)))).add (Nv.z hk)).add hw
    exact h.cast (addN4 _ _ _ _ _)
  y ha hb hc := (((rotA_ok ha 30 2 (by decide) (by decide)).xor (rotA_ok ha 19 13 (by decide) (by decide))).xor (rotA_ok ha 10 22 (by decide) (by decide))).add (((ha.and hb).xor (ha.and hc)).xor (hb.and hc))
def rotB (x : T) (l r : Nat) : T := .bin .add .u32 (.bin .shr .u32 x (.z (.ofNat r))) (.bin .shl .u32 x (.z (.ofNat l)))
def quoT (x : T) (n : Nat) : T := .bin .quo .u32 x (.z (.ofNat n))
def mulT (x : T) (n : Nat) : T := .bin .mul .u32 x (.z (.ofNat n))
def wayB : Way where
  w0 a b c d := ad (ad (ad (mulT (.conv .u32 a) 16777216) (mulT (.conv .u32 b) 65536)) (mulT (.conv .u32 c) 256)) (.conv .u32 d)
  w1 w16 w15 w7 w2 := ad (ad (ad w16 (xo (xo (rotB w15 25 7) (rotB w15 14 18)) (quoT w15 8))) w7) (xo (xo (rotB w2 15 17) (rotB w2 13 19)) (quoT w2 1024))
  x h e f g k w := ad (ad (ad (ad h (xo (xo (rotB e 26 6) (rotB e 21 11)) (rotB e 7 25))) (xo (an e f) (an (.bin .sub .u32 (.z 4294967295) e) g))) (.z (.ofNat k))) w
  y a b c := ad (xo (xo (rotB a 30 2) (rotB a 19 13)) (rotB a 10 22)) (xo (xo (an a b) (an a c)) (an b c))
theorem rotB_ok {ρ : Va} {x : T} {a : Nat} (hx : Nv ρ x a) (l r : Nat) (h : l + r = 32) : Nv ρ (rotB x l r) (rotN a l r) := ((hx.shr r (by omega)).add (hx.shl l (by omega))).cast (rot_add h hx.2)
theorem wayB_ok : wayB.OK where
  w0 ha hb hc hd la lb lc ld := by
    have h := ((((Nv.conv ha la).mul 16777216).add ((Nv.conv hb lb).mul 65536)).add ((Nv.conv hc lc).mul 256)).add (Nv.conv hd ld)
    refine h.cast ?_
    rw [(w0_lt la lb lc ld).1, addN3]
    show ((_ * 16777216) % 4294967296 + (_ * 65536) % 4294967296 + (_ * 256) % 4294967296 + _) % 4294967296 = _
    omega
  w1 h16 h15 h7 h2 := by
    have h := ((h16.add (((rotB_ok h15 25 7 rfl).xor (rotB_ok h15 14 18 rfl)).xor (h15.quo 8 3 rfl))).add h7).add (((rotB_ok h2 15 17 rfl).xor (rotB_ok h2 13 19 rfl)).xor (h2.quo 1024 10 rfl))
    exact h.cast (addN3 _ _ _ _)
  x hh he hf hg hk hw := by
    have h := (((hh.add (((rotB_ok he 26 6 rfl).xor (rotB_ok he 21 11 rfl)).xor (rotB_ok he 7 25 rfl))).add ((he.and hf).xor (he.not.and hg))).add (Nv.z hk)).add hw
    exact h.cast (addN4 _ _ _ _ _)
  y ha hb hc := (((rotB_ok ha 30 2 rfl).xor (rotB_ok ha 19 13 rfl)).xor (rotB_ok ha 10 22 rfl)).add (((ha.and hb).xor (ha.and hc)).xor (hb.and hc))
end Sha
end Go.Sy
/-! Presses, by runs over numbers that are not known. -/
namespace Go.Sy
open Go.RowKit (Below)
namespace Sha
noncomputable def eqTs : List T → List T → Bool
  | [], [] => true
  | a :: l, b :: m => T.beq a b && eqTs l m
  | _, _ => false
theorem eqTs_eq : ∀ {a b : List T}, eqTs a b = true → a = b
  | [], [], _ => rfl
  | a :: l, b :: m, h => by
    simp only [eqTs, Bool.and_eq_true] at h
    rw [T.beq_eq h.1, eqTs_eq h.2]
  | [], _ :: _, h => by cases h
  | _ :: _, [], h => by cases h
noncomputable def symsF (k : IntKind) (i n : Nat) : List AV := Nat.rec (motive := fun _ => Nat → List AV) (fun _ => []) (fun _ ih i => .sym k (.zv i) :: ih (Nat.succ i)) n i
theorem symsF_get (k : IntKind) : ∀ (n i j : Nat), (symsF k i n)[j]? = if j < n then some (.sym k (.zv (i + j))) else none
  | 0, i, j => by show ([] : List AV)[j]? = _; simp
  | n + 1, i, j => by
    show (AV.sym k (.zv i) :: symsF k (i + 1) n)[j]? = _
    cases j with
    | zero => simp
    | succ j => rw [List.getElem?_cons_succ, symsF_get k n (i + 1) j]; simp only [Nat.add_lt_add_iff_right]; rw [show i + 1 + j = i + (j + 1) by omega]
theorem symsF_len (k : IntKind) : ∀ (n i : Nat), (symsF k i n).length = n
  | 0, i => rfl
  | n + 1, i => by show (symsF k (i + 1) n).length + 1 = _; rw [symsF_len k n]
noncomputable def intsF (k : IntKind) (l : List Nat) : List AV := List.rec (motive := fun _ => List AV) [] (fun x _ ih => .int k x :: ih) l
theorem intsF_eq (k : IntKind) (l : List Nat) : intsF k l = l.map (AV.int k) := by
  induction l with
  | nil => rfl
  | cons x l ih => show AV.int k x :: intsF k l = _; rw [ih]; rfl
noncomputable def outs : List AV := [.sym .u32 (outT 0), .sym .u32 (outT 1), .sym .u32 (outT 2), .sym .u32 (outT 3), .sym .u32 (outT 4), .sym .u32 (outT 5), .sym .u32 (outT 6), .sym .u32 (outT 7)]
theorem outs_get {i : Nat} (h : i < 8) : outs[i]? = some (.sym .u32 (outT i)) := by
  match i, h with
  | 0, _ => rfl
  | 1, _ => rfl
  | 2, _ => rfl
  | 3, _ => rfl
  | 4, _ => rfl
  | 5, _ => rfl
  | 6, _ => rfl
  | 7, _ => rfl
noncomputable def pressK (W : Way) (kl : List Nat) : Res → VC
  | .val (.tuple []) st => vbind (st.heap.get 0) fun b => vbind (getsB b.cell 8 0) fun l => vif (sameL l outs && eqTs st.x.nm (chR W (getD0 kl) 64)) .ok
  | _ => .bad
noncomputable def pressB (W : Way) (kl : List Nat) : Res → VC
  | .val (.agg l) st => vif (sameL l outs && eqTs st.x.nm (chR W (getD0 kl) 64)) .ok
  | _ => .bad
noncomputable def stP (t : Tr AV) : St := ⟨1, 1, Tr.nil.set 0 (some ⟨8, t, [], 0, 0, 0, 0⟩), .nil, ⟨.nil, .nil, [], 72, 0, 2, []⟩⟩
noncomputable def stB : St := ⟨0, 1, .nil, .nil, ⟨.nil, .nil, [], 72, 0, 1, []⟩⟩
noncomputable def runPress (W : Way) (kl : List Nat) (P : Program) (n f : Nat) (ls : Tr LSpec) : VC :=
  putsK (intsF .u32 kl) 0 .nil fun t0 => putsK (symsF .u8 8 64) 0 .nil fun t1 => putsK (symsF .u32 0 8) 0 .nil fun t2 => Tr.setK .nil 0 (some t0) fun r => r.setK 1 (some t1) fun r =>
  runX P .nil .nil n (.call f [.ptr (some ⟨.r 0, 0⟩), .ptr (some ⟨.a 0, 0⟩), .slice (some ⟨.a 1, 0⟩) 64 (.u 0 0)]) (pressK W kl) ls r (stP t2)
noncomputable def runPressB (W : Way) (kl : List Nat) (P : Program) (n f : Nat) (ls : Tr LSpec) : VC :=
  putsK (symsF .u8 8 64) 0 .nil fun t1 => Tr.setK .nil 0 (some t1) fun r =>
  runX P .nil .nil n (.call f [.agg (symsF .u32 0 8), .slice (some ⟨.a 0, 0⟩) 64 (.u 0 0)]) (pressB W kl) ls r stB
def zsOf (l : List Nat) : List Int := l.map fun (n : Nat) => (n : Int)
theorem zsOf_get {l : List Nat} {i n : Nat} (h : l[i]? = some n) : (zsOf l)[i]? = some (n : Int) := by simp [zsOf, h]
theorem u32_wf {n : Nat} (h : n < 4294967296) : (Lit.int .u32 (n : Int)).wf = true := by
  simp [Lit.wf, IntKind.min, IntKind.max, IntKind.signed, IntKind.bits]; omega
theorem u8_wf {n : Nat} (h : n < 256) : (Lit.int .u8 (n : Int)).wf = true := by
  simp [Lit.wf, IntKind.min, IntKind.max, IntKind.signed, IntKind.bits]; omega
theorem cxOK_nil (P : Program) (hm : P.follows .mixedOrders = true) {ls : Tr LSpec} {ro : Tr (Tr AV)} (K : Nat → Prop) (w : World) : CxOK (tabs P hm .nil .nil ls ro) K w :=
  let h := cxOf_ok P hm .nil (ls := ls) (ro := ro) (globOK_nil w)
  ⟨h.eqm, h.und, h.size, h.zero, h.fld, fun g t hg => by simp [tabs, cxWith] at hg⟩
theorem fnsOK_nil (P : Program) (hm : P.follows .mixedOrders = true) {ls : Tr LSpec} {ro : Tr (Tr AV)} (K : Nat → Prop) (w : World) (Θ : Pred) : FnsOK (tabs P hm .nil .nil ls ro) K w Θ :=
  ⟨fun _ _ hf => fns_get hf, fun f c hf => by simp [tabs, cxWith] at hf⟩
/-- Bytes that came in. -/
theorem ro_bytes {E : Env} {w : World} {k : IntKind} {base b o n : Nat} {l : List Nat} (hl : l.length = n) (hz : ∀ (j m : Nat), l[j]? = some m → E.z[base + j]? = some (m : Int)) (hw : ∀ (j m : Nat), l[j]? = some m → (Lit.int k (m : Int)).wf = true) (hc : ∀ (j m : Nat), l[j]? = some m → w.cell? ⟨b, j + o, none⟩ = some (.int k (m : Int))) :
    ∀ j v, (puts (symsF k base n) 0 .nil).get j = some v → ∃ x, v.den E = some x ∧ w.cell? ⟨b, j + o, none⟩ = some x := by
  intro j v hv
  rw [puts_get, symsF_len] at hv
  by_cases c : 0 ≤ j ∧ j < 0 + n
  · rw [if_pos c, Nat.sub_zero, symsF_get, if_pos (by omega)] at hv
    cases hv
    have hj : l[j]? = some (l[j]'(by omega)) := List.getElem?_eq_getElem (by omega)
    exact ⟨_, den_sym_of (n := ((l[j]'(by omega) : Nat) : Int)) (by simp [T.ev, Env.va, hz j _ hj]) (hw j _ hj), hc j _ hj⟩
  · rw [if_neg c] at hv; simp at hv
section
variable {P : Program} (hm : P.follows .mixedOrders = true) {W : Way} (hW : W.OK) {kl : List Nat} {n f : Nat} {ls : Tr LSpec} (hfn : hasFn P f = true) (hkl : kl.length = 64) (hk : ∀ k ∈ kl, k < 4294967296)
include hm hW hfn hkl hk
omit hm hW hfn in
theorem ks_lt : ∀ t, t < 64 → getD0 kl t < 4294967296 := by
  intro t ht
  rw [getD0_eq, List.getD_eq_getElem?_getD, List.getElem?_eq_getElem (by omega)]
  exact hk _ (List.getElem_mem _)
omit hm hW hfn hk in
theorem kl_eq : kl = (List.range 64).map (getD0 kl) := by
  apply List.ext_getElem
  · simp [hkl]
  · intro i h1 h2
    rw [List.getElem_map, List.getElem_range, getD0_eq, List.getD_eq_getElem?_getD, List.getElem?_eq_getElem h1]; rfl
omit hm hfn in
theorem chain_out {E : Env} {s l : List Nat} (hs : s.length = 8) (hsz : ∀ x ∈ s, x < 4294967296) (hl : l.length = 64) (hlz : ∀ x ∈ l, x < 256) (hz : ∀ (j m : Nat), (s ++ l)[j]? = some m → E.z[j]? = some (m : Int)) (hf : FOK E.va (chR W (getD0 kl) 64)) :
    (pressN kl s l).length = 8 ∧ ∀ (i m : Nat) (x : Value), (pressN kl s l)[i]? = some m → (AV.sym .u32 (outT i)).den E = some x → x = .int .u32 (m : Int) := by
  have hp := press_all hW (ks_lt hkl hk) (chain_chR W (getD0 kl)) hf hs hl (fun i h => ⟨hz i _ (by rw [List.getElem?_append_left h]; exact List.getElem?_eq_getElem h), hsz _ (List.getElem_mem _)⟩)
    (fun i h => ⟨hz (8 + i) _ (by rw [List.getElem?_append_right (by omega), hs, show 8 + i - 8 = i by omega]; exact List.getElem?_eq_getElem h), hlz _ (List.getElem_mem _)⟩) (kl_eq hkl)
  refine ⟨hp.1, fun i m x hi hx => ?_⟩
  obtain ⟨q, h1, _, rfl⟩ := den_sym hx
  obtain ⟨hlt, he⟩ := List.getElem?_eq_some_iff.1 hi
  have := (hp.2 i hlt).1
  rw [he] at this
  rw [this] at h1; cases h1; rfl
theorem press_calls (h : (runPress W kl P n f ls).triv = true) {w : World} {bs os bk ok bb ob c : Nat} {cs : Array Value} {el : TypeId} {fr : Nat × Nat} (hh : w.heap[bs]? = some (.cells cs el fr)) (hfree : fr.1 = fr.2 ∨ cs.size ≤ fr.1) (hroom : 8 + os ≤ cs.size)
    {s l : List Nat} (hs : s.length = 8) (hsz : ∀ x ∈ s, x < 4294967296) (hsc : ∀ (i m : Nat), s[i]? = some m → cs[i + os]? = some (.int .u32 (m : Int))) (hl : l.length = 64) (hlz : ∀ x ∈ l, x < 256)
    (hbk : bk ≠ bs ∧ bk < w.heap.size) (hkc : ∀ (i m : Nat), kl[i]? = some m → w.cell? ⟨bk, i + ok, none⟩ = some (.int .u32 (m : Int))) (hbb : bb ≠ bs ∧ bb < w.heap.size) (hbc : ∀ (i m : Nat), l[i]? = some m → w.cell? ⟨bb, i + ob, none⟩ = some (.int .u8 (m : Int))) (hc : 64 ≤ c) :
    Calls P f #[.pointer (some ⟨bs, os, none⟩), .pointer (some ⟨bk, ok, none⟩), .slice (some ⟨bb, ob, none⟩) 64 c] w fun e w' => e = .returned (.tuple #[]) ∧ Kept (fun b => b < w.heap.size ∧ b ≠ bs) w w' ∧
      ∃ cs' el' fr', w'.heap[bs]? = some (.cells cs' el' fr') ∧ (fr'.1 = fr'.2 ∨ cs'.size ≤ fr'.1) ∧ 8 + os ≤ cs'.size ∧ ∀ (i m : Nat), (pressN kl s l)[i]? = some m → cs'[i + os]? = some (.int .u32 (m : Int)) := by
  unfold runPress at h
  rw [putsK_eq, putsK_eq, putsK_eq, Tr.setK_eq, Tr.setK_eq, runX_eq] at h
  have hbs : bs < w.heap.size := by
    rcases Nat.lt_or_ge bs w.heap.size with c | c
    · exact c
    · rw [Array.getElem?_eq_none c] at hh; cases hh
  generalize hro : (Tr.nil.set 0 (some (puts (intsF .u32 kl) 0 .nil))).set 1 (some (puts (symsF .u8 8 64) 0 .nil)) = ro at h
  obtain ⟨E, hE⟩ : ∃ E : Env, E = ⟨[some (bs, os)], [c], zsOf (s ++ l), [], [.pointer (some ⟨bk, ok, none⟩), .pointer (some ⟨bb, ob, none⟩)]⟩ := ⟨_, rfl⟩
  have hz : ∀ (j m : Nat), (s ++ l)[j]? = some m → E.z[j]? = some (m : Int) := fun j m hj => by rw [hE]; exact zsOf_get hj
  have hzs : ∀ (j m : Nat), s[j]? = some m → E.z[0 + j]? = some (m : Int) := fun j m hj => hz _ _ (by rw [Nat.zero_add, List.getElem?_append_left (List.getElem?_eq_some_iff.1 hj).1]; exact hj)
  have hzl : ∀ (j m : Nat), l[j]? = some m → E.z[8 + j]? = some (m : Int) := fun j m hj => hz _ _ (by rw [List.getElem?_append_right (by omega), hs, show 8 + j - 8 = j by omega]; exact hj)
  have hget : ∀ k b, (stP (puts (symsF .u32 0 8) 0 .nil)).heap.get k = some b → k = 0 ∧ b = ⟨8, puts (symsF .u32 0 8) 0 .nil, [], 0, 0, 0, 0⟩ := by
    intro k b hb
    have hb : (Tr.nil.set 0 (some _)).get k = some b := hb
    rw [Tr.get_set] at hb
    split at hb
    · rename_i e; cases hb; exact ⟨e.symm, rfl⟩
    · simp at hb
  have hS : StRel (tabs P hm .nil .nil ls ro) (fun b => b < w.heap.size ∧ b ≠ bs) w E (stP (puts (symsF .u32 0 8) 0 .nil)) w := by
    refine ⟨by rw [hE]; rfl, by rw [hE]; rfl, by rw [hE]; simp [zsOf, stP, hs, hl], by rw [hE]; rfl, by rw [hE]; rfl, fun k hk => hk.1, .refl _ _, fun k p hp => ?_, fun k b hb => ?_, fun k b hb => .inr ?_, fun k1 k2 b1 b2 id1 sh1 id2 sh2 h1 h2 _ _ hf => ?_, fun f l hl => by simp [stP] at hl,
      fun k b hb k' b' hb' hf => ?_, fun k o ho => by simp [stP] at ho, fun k1 k2 o1 o2 p h1 => by simp [stP] at h1, fun k o ho => by simp [stP] at ho, fun c hc => (by cases hc), fun k b p hb hp => ?_, fun f l hl => by simp [stP] at hl, ⟨fun i t ht => ?_, fun c hc => (by cases hc)⟩⟩
    · rw [hE] at hp
      match k, hp with
      | 0, hp => simp at hp; subst hp; exact ⟨fun h => h.2 rfl, hbs⟩
      | k + 1, hp => simp at hp
    · obtain ⟨rfl, rfl⟩ := hget k b hb; exact ⟨Nat.zero_lt_one, Nat.zero_lt_one⟩
    · obtain ⟨rfl, rfl⟩ := hget k b hb
      refine ⟨bs, os, cs, el, fr, by rw [hE]; rfl, hh, hfree, hroom, fun i v hv => ?_, fun i hi => (by cases hi), fun i v hv => ?_⟩
      · have hv : (puts (symsF .u32 0 8) 0 .nil).get i = some v := hv
        rw [puts_get, symsF_len] at hv
        by_cases c : 0 ≤ i ∧ i < 0 + 8
        · show i < 8; omega
        · rw [if_neg c] at hv; simp at hv
      · rw [cell_eq] at hv
        simp only [puts_get, symsF_len, Nat.sub_zero, symsF_get] at hv
        by_cases c : i < 8
        · rw [if_pos (by omega), if_pos c] at hv
          cases hv
          have hi : s[i]? = some (s[i]'(by omega)) := List.getElem?_eq_getElem (by omega)
          exact ⟨_, den_sym_of (n := ((s[i]'(by omega) : Nat) : Int)) (by simp only [T.ev, Env.va, hzs i _ hi]; rfl) (u32_wf (hsz _ (List.getElem_mem _))), hsc i _ hi⟩
        · rw [if_neg (by omega)] at hv
          simp at hv
    · obtain ⟨_, rfl⟩ := hget k1 b1 h1
      obtain ⟨_, rfl⟩ := hget k2 b2 h2
      exact absurd rfl hf
    · obtain ⟨rfl, rfl⟩ := hget k b hb
      obtain ⟨rfl, rfl⟩ := hget k' b' hb'
      unfold famOf
      simp [stP]
    · obtain ⟨rfl, rfl⟩ := hget k b hb
      exact ⟨p, hp⟩
    · have ht : ro.get i = some t := ht
      rw [← hro, Tr.get_set] at ht
      by_cases e : 1 = i
      · subst e
        rw [if_pos rfl] at ht; cases ht
        exact ⟨bb, ob, by rw [hE]; rfl, ⟨hbb.2, hbb.1⟩, ro_bytes hl hzl (fun j m hj => u8_wf (hlz _ (List.mem_of_getElem? hj))) hbc⟩
      · rw [if_neg e, Tr.get_set] at ht
        by_cases e : 0 = i
        · subst e
          rw [if_pos rfl] at ht; cases ht
          refine ⟨bk, ok, by rw [hE]; rfl, ⟨hbk.2, hbk.1⟩, fun j v hv => ?_⟩
          rw [puts_get, intsF_eq] at hv
          simp only [List.length_map, Nat.sub_zero, List.getElem?_map] at hv
          by_cases c : 0 ≤ j ∧ j < 0 + kl.length
          · rw [if_pos c, List.getElem?_eq_getElem (by omega)] at hv
            cases hv
            have hj : kl[j]? = some (kl[j]'(by omega)) := List.getElem?_eq_getElem (by omega)
            have hlt := hk _ (List.getElem_mem (l := kl) (n := j) (by omega))
            exact ⟨_, by rw [den_int_of (k := .u32) hlt, sgn_nat .u32 hlt], hkc j _ hj⟩
          · rw [if_neg c] at hv; simp at hv
        · rw [if_neg e] at ht; simp at ht
  have hargs : denL E [.ptr (some ⟨.r 0, 0⟩), .ptr (some ⟨.a 0, 0⟩), .slice (some ⟨.a 1, 0⟩) 64 (.u 0 0)] = some [.pointer (some ⟨bs, os, none⟩), .pointer (some ⟨bk, ok, none⟩), .slice (some ⟨bb, ob, none⟩) 64 c] := by
    rw [hE]; simp [denL, AV.den, aden, cden, hc]
  refine (calls_of_runE (X := tabs P hm .nil .nil ls ro) (cxOK_nil P hm _ w) (fnsOK_nil P hm _ w (fun _ _ => True)) (R := []) hS hargs (triv_holds h) hfn).mono fun e w' ⟨v, he, ho⟩ => ?_
  obtain ⟨v', st', E', R', _, h2, h3, h4, _, h6⟩ := ho
  unfold pressK at h2
  split at h2
  · rename_i st e
    cases e
    obtain ⟨b, hb, h2⟩ := vbind_inv h2
    obtain ⟨lo, hlo, h2⟩ := vbind_inv h2
    obtain ⟨h2, _⟩ := vif_inv h2
    rw [Bool.and_eq_true] at h2
    have e1 := same_both.2 _ _ h2.1
    have e2 := eqTs_eq h2.2
    subst e1
    have hf := h4.ext.names
    rw [e2] at hf
    obtain ⟨hp1, hp2⟩ := chain_out hW hkl hk hs hsz hl hlz (fun j m hj => h3.va.1 _ _ (hz j m hj)) hf
    have hm0 : E'.m[0]? = some (some (bs, os)) := h3.m 0 (bs, os) (by rw [hE]; rfl)
    refine ⟨?_, h4.kept, ?_⟩
    · rw [he]
      have : (AV.tuple []).den E' = some (.tuple #[]) := rfl
      rw [this] at h6; cases h6; rfl
    · rcases h4.blks 0 b hb with g | ⟨id, sh, cs', el', fr', g1, g2, g3⟩
      · rw [hm0] at g; cases g.1
      · rw [hm0] at g1; cases g1
        obtain ⟨gl, gg⟩ := getsB_spec 8 0 hlo
        have h8 := gg 7 _ (outs_get (by decide))
        have hsz8 : 8 ≤ b.sz := by
          rw [cell_eq] at h8
          cases hc7 : b.cells.get (0 + 7) with
          | some y => have := g3.bnd _ y hc7; omega
          | none =>
            rw [hc7] at h8
            simp only at h8
            by_cases c : 0 + 7 < b.sz
            · omega
            · rw [if_neg c] at h8; cases h8
        refine ⟨cs', el', fr', g2, g3.free, by have := g3.room; omega, fun i m hi => ?_⟩
        have hi8 : i < 8 := by have := (List.getElem?_eq_some_iff.1 hi).1; omega
        have hci := gg i _ (outs_get hi8)
        rw [Nat.zero_add] at hci
        obtain ⟨x, hx, hxc⟩ := g3.cells i _ hci
        rw [hp2 i m x hi hx] at hxc
        exact hxc
  · exact h2.elim
theorem pressB_calls (h : (runPressB W kl P n f ls).triv = true) {w : World} {bb ob c : Nat} {s l : List Nat} (hs : s.length = 8) (hsz : ∀ x ∈ s, x < 4294967296) (hl : l.length = 64) (hlz : ∀ x ∈ l, x < 256)
    (hbb : bb < w.heap.size) (hbc : ∀ (i m : Nat), l[i]? = some m → w.cell? ⟨bb, i + ob, none⟩ = some (.int .u8 (m : Int))) (hc : 64 ≤ c) :
    Calls P f #[.agg (s.map fun (m : Nat) => Value.int .u32 (m : Int)).toArray, .slice (some ⟨bb, ob, none⟩) 64 c] w fun e w' => e = .returned (.agg ((pressN kl s l).map fun (m : Nat) => Value.int .u32 (m : Int)).toArray) ∧ Below w.heap.size w w' := by
  unfold runPressB at h
  rw [putsK_eq, Tr.setK_eq, runX_eq] at h
  generalize hro : (Tr.nil.set 0 (some (puts (symsF .u8 8 64) 0 .nil))) = ro at h
  obtain ⟨E, hE⟩ : ∃ E : Env, E = ⟨[], [c], zsOf (s ++ l), [], [.pointer (some ⟨bb, ob, none⟩)]⟩ := ⟨_, rfl⟩
  have hz : ∀ (j m : Nat), (s ++ l)[j]? = some m → E.z[j]? = some (m : Int) := fun j m hj => by rw [hE]; exact zsOf_get hj
  have hzs : ∀ (j m : Nat), s[j]? = some m → E.z[0 + j]? = some (m : Int) := fun j m hj => hz _ _ (by rw [Nat.zero_add, List.getElem?_append_left (List.getElem?_eq_some_iff.1 hj).1]; exact hj)
  have hzl : ∀ (j m : Nat), l[j]? = some m → E.z[8 + j]? = some (m : Int) := fun j m hj => hz _ _ (by rw [List.getElem?_append_right (by omega), hs, show 8 + j - 8 = j by omega]; exact hj)
  have hS : StRel (tabs P hm .nil .nil ls ro) (· < w.heap.size) w E stB w := by
    refine ⟨by rw [hE]; rfl, by rw [hE]; rfl, by rw [hE]; simp [zsOf, stB, hs, hl], by rw [hE]; rfl, by rw [hE]; rfl, fun k hk => hk, .refl _ _, fun k p hp => by rw [hE] at hp; simp at hp, fun k b hb => by simp [stB] at hb, fun k b hb => by simp [stB] at hb, fun k1 k2 b1 b2 id1 sh1 id2 sh2 h1 => by simp [stB] at h1, fun f l hl => by simp [stB] at hl,
      fun k b hb => by simp [stB] at hb, fun k o ho => by simp [stB] at ho, fun k1 k2 o1 o2 p h1 => by simp [stB] at h1, fun k o ho => by simp [stB] at ho, fun c hc => (by cases hc), fun k b p hb hp => by simp [stB] at hb, fun f l hl => by simp [stB] at hl, ⟨fun i t ht => ?_, fun c hc => (by cases hc)⟩⟩
    have ht : ro.get i = some t := ht
    rw [← hro, Tr.get_set] at ht
    by_cases e : 0 = i
    · subst e
      rw [if_pos rfl] at ht; cases ht
      exact ⟨bb, ob, by rw [hE]; rfl, hbb, ro_bytes hl hzl (fun j m hj => u8_wf (hlz _ (List.mem_of_getElem? hj))) hbc⟩
    · rw [if_neg e] at ht; simp at ht
  have hagg : denL E (symsF .u32 0 8) = some (s.map fun (m : Nat) => Value.int .u32 (m : Int)) := by
    refine denL_of (by simp [symsF_len, hs]) fun i v hv => ?_
    rw [symsF_get] at hv
    by_cases c : i < 8
    · rw [if_pos c] at hv; cases hv
      have hi : s[i]? = some (s[i]'(by omega)) := List.getElem?_eq_getElem (by omega)
      exact ⟨_, den_sym_of (n := ((s[i]'(by omega) : Nat) : Int)) (by simp only [T.ev, Env.va, hzs i _ hi]; rfl) (u32_wf (hsz _ (List.getElem_mem _))), by simp [hi]⟩
    · rw [if_neg c] at hv; cases hv
  have hargs : denL E [.agg (symsF .u32 0 8), .slice (some ⟨.a 0, 0⟩) 64 (.u 0 0)] = some [.agg (s.map fun (m : Nat) => Value.int .u32 (m : Int)).toArray, .slice (some ⟨bb, ob, none⟩) 64 c] := by
    refine denL_cons.2 ⟨_, _, den_agg_of hagg, ?_, rfl⟩
    rw [hE]; simp [denL, AV.den, aden, cden, hc]
  refine (calls_of_runE (X := tabs P hm .nil .nil ls ro) (cxOK_nil P hm _ w) (fnsOK_nil P hm _ w (fun _ _ => True)) (R := []) hS hargs (triv_holds h) hfn).mono fun e w' ⟨v, he, ho⟩ => ?_
  obtain ⟨v', st', E', R', _, h2, h3, h4, _, h6⟩ := ho
  unfold pressB at h2
  split at h2
  · rename_i lo st e
    cases e
    obtain ⟨h2, _⟩ := vif_inv h2
    rw [Bool.and_eq_true] at h2
    have e1 := same_both.2 _ _ h2.1
    have e2 := eqTs_eq h2.2
    subst e1
    have hf := h4.ext.names
    rw [e2] at hf
    obtain ⟨hp1, hp2⟩ := chain_out hW hkl hk hs hsz hl hlz (fun j m hj => h3.va.1 _ _ (hz j m hj)) hf
    refine ⟨?_, Kept.below h4.kept⟩
    rw [he]
    obtain ⟨xs, hxs, hv⟩ := den_agg h6
    have hxl := denL_length hxs
    have hxx : xs = (pressN kl s l).map fun (m : Nat) => Value.int .u32 (m : Int) := by
      apply List.ext_getElem?
      intro i
      by_cases c : i < 8
      · obtain ⟨y, hy, hyx⟩ := denL_get hxs (outs_get c)
        have hi : (pressN kl s l)[i]? = some ((pressN kl s l)[i]'(by omega)) := List.getElem?_eq_getElem (by omega)
        rw [hyx, hp2 i _ y hi hy, List.getElem?_map, hi]; rfl
      · rw [List.getElem?_eq_none (by rw [hxl]; show 8 ≤ i; omega), List.getElem?_eq_none (by simp [hp1]; omega)]
    rw [hv, hxx]
  · exact h2.elim
end
end Sha
end Go.Sy
/-! Contracts of presses. -/
namespace Go.Sy
open Go.RowKit (Below)
section
variable {X : Tabs} {K : Nat → Prop} {w0 : World} {E : Env} {st : St} {w : World} {Θ : Pred} {R : List Back}
/-- Block k is another one, what is new stands behind all, nothing else has changed. -/
theorem storedW (hS : StRel X K w0 E st w) {k : Nat} {b : Blk} (hk : st.heap.get k = some b) {id sh : Nat} {cs cs' : Array Value} {el el' : TypeId} {fr fr' : Nat × Nat} {w' : World} (hm : E.m[k]? = some (some (id, sh)))
    (hh : w.heap[id]? = some (.cells cs el fr)) (hkw : Kept (fun i => i < w.heap.size ∧ i ≠ id) w w') (hh' : w'.heap[id]? = some (.cells cs' el' fr')) {b' : Blk} (hfam : b'.fam = b.fam) (hr : BlkRel E b' sh cs' fr') {h' : Tr Blk} {l' : Tr (List Nat)}
    (hget : ∀ j, h'.get j = if j = k then some b' else if j ∈ famOf st b k then none else st.heap.get j)
    (hlive : ∀ f, l'.get f = st.live.get f ∨ (f = b.fam ∧ l'.get f = some [k])) :
    StRel X K w0 E ⟨st.n, st.nc, h', l', st.x⟩ w' := by
  have other : ∀ j bj, h'.get j = some bj → j ≠ k → st.heap.get j = some bj ∧ bj.fam ≠ b.fam := by
    intro j bj hj hne
    rw [hget, if_neg hne] at hj
    split at hj
    · cases hj
    · rename_i hnot
      exact ⟨hj, fun e => hnot (hS.lives k b hk j bj hj e)⟩
  have same : h'.get k = some b' := by rw [hget, if_pos rfl]
  have idk : ∀ j o, st.x.objs.get j = some o → ∀ id2 ob, w.heap[id2]? = some ob → ObRel X E o ob → id2 ≠ id := by
    intro j o _ id2 ob h1 h2 e
    subst e
    rw [hh] at h1; cases h1
    exact h2.notCells
  refine ⟨hS.n_eq, hS.c_eq, hS.z_eq, hS.a_eq, hS.o_eq, hS.klt, hS.kept.trans (hkw.mono fun i hi => ⟨hS.klt' i hi, fun e => (hS.ids k _ hm).1 (e ▸ hi)⟩), ?_, ?_, ?_, ?_, ?_, ?_, ?_, hS.oinj, ?_, hS.facts, ?_, ?_, hS.ext⟩
  · intro i p hp; exact ⟨(hS.ids i p hp).1, Nat.lt_of_lt_of_le (hS.ids i p hp).2 hkw.size⟩
  · intro j bj hj
    by_cases e : j = k
    · subst e; rw [same] at hj; cases hj; exact ⟨(hS.lt j b hk).1, by rw [hfam]; exact (hS.lt j b hk).2⟩
    · exact hS.lt j bj (other j bj hj e).1
  · intro j bj hj
    by_cases e : j = k
    · subst e; rw [same] at hj; cases hj
      exact .inr ⟨id, sh, cs', el', fr', hm, hh', hr⟩
    · obtain ⟨h1, h2⟩ := other j bj hj e
      rcases hS.blks j bj h1 with h0 | ⟨id2, sh2, cs2, el2, fr2, hm2, hh2, hr2⟩
      · exact .inl h0
      · have hne : id2 ≠ id := hS.fams j k bj b id2 sh2 id sh h1 hk hm2 hm h2
        exact .inr ⟨id2, sh2, cs2, el2, fr2, hm2, by rw [hkw.block _ ⟨(hS.ids j _ hm2).2, hne⟩]; exact hh2, hr2⟩
  · intro k1 k2 b1 b2 id1 sh1 id2 sh2 h1 h2 m1 m2 hf
    have old : ∀ j bj, h'.get j = some bj → ∃ bj', st.heap.get j = some bj' ∧ bj'.fam = bj.fam := by
      intro j bj hj
      by_cases e : j = k
      · subst e; rw [same] at hj; cases hj; exact ⟨b, hk, hfam.symm⟩
      · exact ⟨bj, (other j bj hj e).1, rfl⟩
    obtain ⟨b1', e1, f1⟩ := old k1 b1 h1
    obtain ⟨b2', e2, f2⟩ := old k2 b2 h2
    exact hS.fams k1 k2 b1' b2' id1 sh1 id2 sh2 e1 e2 m1 m2 (by rw [f1, f2]; exact hf)
  · intro f l hl
    rcases hlive f with h | ⟨h, _⟩
    · exact hS.livelt f l (by rw [← h]; exact hl)
    · rw [h]; exact (hS.lt k b hk).2
  · intro j bj hj k' b2 hk' hf
    by_cases e : j = k
    · subst e; rw [same] at hj; cases hj
      by_cases e' : k' = j
      · subst e'
        unfold famOf
        rw [hfam]
        rcases hlive b.fam with h | ⟨_, h⟩
        · show k' ∈ (Option.rec [k'] (fun l => l) (l'.get b.fam) : List Nat)
          rw [h]; exact hS.lives k' b hk k' b hk rfl
        · show k' ∈ (Option.rec [k'] (fun l => l) (l'.get b.fam) : List Nat)
          rw [h]; simp
      · exact absurd (hf.trans hfam) (other k' b2 hk' e').2
    · obtain ⟨h1, h2⟩ := other j bj hj e
      have hne : k' ≠ k := by
        rintro rfl
        rw [same] at hk'; cases hk'; exact h2 (hf.symm.trans hfam)
      obtain ⟨h3, _⟩ := other k' b2 hk' hne
      have := hS.lives j bj h1 k' b2 h3 hf
      unfold famOf at this ⊢
      rcases hlive bj.fam with h | ⟨h, _⟩
      · show k' ∈ (Option.rec [j] (fun l => l) (l'.get bj.fam) : List Nat)
        rw [h]; exact this
      · exact absurd h h2
  · intro j o ho
    obtain ⟨h1, h2⟩ := hS.objs j o ho
    refine ⟨h1, h2.imp (fun h => h) ?_⟩
    rintro ⟨id2, ob, g1, g2, g3⟩
    exact ⟨id2, ob, g1, by rw [hkw.block _ ⟨(hS.ids j _ g1).2, idk j o ho id2 ob g2 g3⟩]; exact g2, g3⟩
  · intro j o ho
    show h'.get j = none
    have h0 := hS.apart j o ho
    rw [hget]
    have : j ≠ k := by rintro rfl; rw [hk] at h0; cases h0
    rw [if_neg this, h0]
    split <;> rfl
  · intro j bj p hj hp
    by_cases e : j = k
    · subst e; rw [same] at hj; cases hj; rw [hfam]; exact hS.famh _ b _ hk hm
    · exact hS.famh j bj p (other j bj hj e).1 hp
  · intro f l hl
    rcases hlive f with h | ⟨h, h2⟩
    · exact hS.liveh f l (by rw [← h]; exact hl)
    · have hl : l'.get f = some l := hl
      rw [h2] at hl; cases hl
      subst h
      refine ⟨hS.famh k b _ hk hm, fun j hj => ?_⟩
      rw [List.mem_singleton.1 hj]; exact ⟨_, hm⟩
end
namespace Sha
noncomputable def numT (k : IntKind) : List AV → Option (List T)
  | [] => some []
  | .int j u :: r => bif_ (kbeq j k) (obind (numT k r) fun l => some (.z (sgn j u) :: l)) none
  | .sym j t :: r => bif_ (kbeq j k) (obind (numT k r) fun l => some (t :: l)) none
  | _ => none
theorem numT_inv {E : Env} {k : IntKind} : ∀ {l : List AV} {ts : List T} {xs : List Value}, numT k l = some ts → denL E l = some xs → ∃ ns : List Int, evL E.va ts = some (ns.map .i) ∧ xs = ns.map (Value.int k) ∧ ∀ n ∈ ns, (Lit.int k n).wf = true
  | [], ts, xs, h, hx => by cases h; rw [denL_nil.1 hx]; exact ⟨[], rfl, rfl, by simp⟩
  | v :: l, ts, xs, h, hx => by
    obtain ⟨x, xs', hx1, hx2, rfl⟩ := denL_cons.1 hx
    cases v with
    | int j u =>
      obtain ⟨hk, h⟩ := bif_some h
      obtain ⟨l', hl', h⟩ := obind_inv h
      cases h
      obtain rfl := kbeq_eq hk
      obtain ⟨ns, h1, rfl, h3⟩ := numT_inv hl' hx2
      obtain ⟨hu, rfl⟩ := den_int hx1
      refine ⟨sgn j u :: ns, by simp [evL, T.ev, h1], rfl, fun n hn => ?_⟩
      rcases List.mem_cons.1 hn with rfl | hn
      · exact sgn_wf _ hu
      · exact h3 n hn
    | sym j t =>
      obtain ⟨hk, h⟩ := bif_some h
      obtain ⟨l', hl', h⟩ := obind_inv h
      cases h
      obtain rfl := kbeq_eq hk
      obtain ⟨ns, h1, rfl, h3⟩ := numT_inv hl' hx2
      obtain ⟨n, hn, hw, rfl⟩ := den_sym hx1
      refine ⟨n :: ns, by simp [evL, hn, h1], rfl, fun m hm => ?_⟩
      rcases List.mem_cons.1 hm with rfl | hm
      · exact hw
      · exact h3 m hm
    | _ => cases h
theorem nats_of {M : Nat} : ∀ {ns : List Int}, (∀ n ∈ ns, 0 ≤ n ∧ n < (M : Int)) → ∃ s : List Nat, ns = zsOf s ∧ ∀ x ∈ s, x < M
  | [], _ => ⟨[], rfl, by simp⟩
  | n :: ns, h => by
    obtain ⟨s, h1, h2⟩ := nats_of (ns := ns) fun m hm => h m (List.mem_cons_of_mem _ hm)
    have h0 := h n (by simp)
    refine ⟨n.toNat :: s, ?_, fun x hx => ?_⟩
    · show _ = ((n.toNat : Nat) : Int) :: zsOf s
      rw [← h1]; congr 1; omega
    · rcases List.mem_cons.1 hx with rfl | hx
      · omega
      · exact h2 x hx
theorem wf_u32 {n : Int} (h : (Lit.int .u32 n).wf = true) : 0 ≤ n ∧ n < ((4294967296 : Nat) : Int) := by
  have := wf_range h; simp [minOf, maxOf] at this; omega
theorem wf_u8 {n : Int} (h : (Lit.int .u8 n).wf = true) : 0 ≤ n ∧ n < ((256 : Nat) : Int) := by
  have := wf_range h; simp [minOf, maxOf] at this; omega
def ivs (l : List Nat) : List D := l.map fun (n : Nat) => D.i (n : Int)
theorem ivs_zs (l : List Nat) : (zsOf l).map D.i = ivs l := by simp [zsOf, ivs]
def vals (k : IntKind) (l : List Nat) : List Value := l.map fun (n : Nat) => Value.int k (n : Int)
theorem vals_zs (k : IntKind) (l : List Nat) : (zsOf l).map (Value.int k) = vals k l := by simp [zsOf, vals]
/-- What a press promises. -/
def PressSpec (P : Program) (f : FuncId) (kl : List Nat) : Prop :=
  ∀ {w : World} {bs os bk ok bb ob c : Nat} {cs : Array Value} {el : TypeId} {fr : Nat × Nat}, w.heap[bs]? = some (.cells cs el fr) → (fr.1 = fr.2 ∨ cs.size ≤ fr.1) → 8 + os ≤ cs.size →
    ∀ {s l : List Nat}, s.length = 8 → (∀ x ∈ s, x < 4294967296) → (∀ (i m : Nat), s[i]? = some m → cs[i + os]? = some (.int .u32 (m : Int))) → l.length = 64 → (∀ x ∈ l, x < 256) →
    (bk ≠ bs ∧ bk < w.heap.size) → (∀ (i m : Nat), kl[i]? = some m → w.cell? ⟨bk, i + ok, none⟩ = some (.int .u32 (m : Int))) → (bb ≠ bs ∧ bb < w.heap.size) → (∀ (i m : Nat), l[i]? = some m → w.cell? ⟨bb, i + ob, none⟩ = some (.int .u8 (m : Int))) → 64 ≤ c →
    Calls P f #[.pointer (some ⟨bs, os, none⟩), .pointer (some ⟨bk, ok, none⟩), .slice (some ⟨bb, ob, none⟩) 64 c] w fun e w' => e = .returned (.tuple #[]) ∧ Kept (fun b => b < w.heap.size ∧ b ≠ bs) w w' ∧
      ∃ cs' el' fr', w'.heap[bs]? = some (.cells cs' el' fr') ∧ (fr'.1 = fr'.2 ∨ cs'.size ≤ fr'.1) ∧ 8 + os ≤ cs'.size ∧ ∀ (i m : Nat), (pressN kl s l)[i]? = some m → cs'[i + os]? = some (.int .u32 (m : Int))
def PressSpecB (P : Program) (f : FuncId) (kl : List Nat) : Prop :=
  ∀ {w : World} {bb ob c : Nat} {s l : List Nat}, s.length = 8 → (∀ x ∈ s, x < 4294967296) → l.length = 64 → (∀ x ∈ l, x < 256) →
    bb < w.heap.size → (∀ (i m : Nat), l[i]? = some m → w.cell? ⟨bb, i + ob, none⟩ = some (.int .u8 (m : Int))) → 64 ≤ c →
    Calls P f #[.agg (s.map fun (m : Nat) => Value.int .u32 (m : Int)).toArray, .slice (some ⟨bb, ob, none⟩) 64 c] w fun e w' => e = .returned (.agg ((pressN kl s l).map fun (m : Nat) => Value.int .u32 (m : Int)).toArray) ∧ Below w.heap.size w w'
noncomputable def apart (st : St) (b : Blk) : Bid → Bool
  | .r k => Option.rec false (fun b2 => not (Nat.beq b2.fam b.fam)) (st.heap.get k)
  | _ => true
noncomputable def conPress (cx : Cx) (kl : List Nat) (p : Nat) : Con := fun args st K => match args with
  | [.ptr (some ⟨.r s, 0⟩), .ptr (some ka), .slice (some ba) q _] =>
    vif (Nat.beq q 64) <| vbind (st.heap.get s) fun b => vif (Nat.beq b.sz 8 && (Nat.beq b.cv 0 && (apart st b ka.b && apart st b ba.b))) <|
    vbind (cellsFrom cx st 64 ka.off ka.b) fun kc => vif (sameL kc (intsF .u32 kl)) <|
    vbind (cellsFrom cx st 8 0 (.r s)) fun sc => vbind (cellsFrom cx st 64 ba.off ba.b) fun bc =>
    vbind (numT .u32 sc) fun ts => vbind (numT .u8 bc) fun tb => match st with
    | ⟨n, nc, h, l, ⟨o, sh, f, nz, na, no, nm⟩⟩ => .all 8 0 [.p p (ts ++ (tb ++ zvs nz 8))] <| natK (Nat.add nz 8) fun nz' =>
      putsK (symsF .u32 nz 8) 0 b.cells fun t => putBlk ⟨n, nc, h, l, ⟨o, sh, f, nz', na, no, nm⟩⟩ s b t fun st => K (.tuple []) st
  | _ => .bad
noncomputable def conPressB (cx : Cx) (p : Nat) : Con := fun args st K => match args with
  | [.agg sc, .slice (some ba) q _] =>
    vif (Nat.beq q 64 && Nat.beq (lenL sc) 8) <| vbind (cellsFrom cx st 64 ba.off ba.b) fun bc =>
    vbind (numT .u32 sc) fun ts => vbind (numT .u8 bc) fun tb => match st with
    | ⟨n, nc, h, l, ⟨o, sh, f, nz, na, no, nm⟩⟩ => .all 8 0 [.p p (ts ++ (tb ++ zvs nz 8))] <| natK (Nat.add nz 8) fun nz' =>
      K (.agg (symsF .u32 nz 8)) ⟨n, nc, h, l, ⟨o, sh, f, nz', na, no, nm⟩⟩
  | _ => .bad
def Pθ (kl : List Nat) (d : List D) : Prop := ∃ s l : List Nat, s.length = 8 ∧ l.length = 64 ∧ (∀ x ∈ s, x < 4294967296) ∧ (∀ x ∈ l, x < 256) ∧ d = ivs s ++ (ivs l ++ ivs (pressN kl s l))
theorem pressN_len {kl s l : List Nat} (hs : s.length = 8) : (pressN kl s l).length = 8 ∧ ∀ x ∈ pressN kl s l, x < 4294967296 := by
  match s, hs with
  | [s0, s1, s2, s3, s4, s5, s6, s7], _ =>
    have key : ∀ (kw : List (Nat × Nat)) (a b c d e f g h : Nat), ∃ a' b' c' d' e' f' g' h', rndsN kw a b c d e f g h (fun a b c d e f g h => fin8 [addN s0 a, addN s1 b, addN s2 c, addN s3 d, addN s4 e, addN s5 f, addN s6 g, addN s7 h] fun l => l) = [addN s0 a', addN s1 b', addN s2 c', addN s3 d', addN s4 e', addN s5 f', addN s6 g', addN s7 h'] := by
      intro kw
      induction kw with
      | nil => intro a b c d e f g h; exact ⟨a, b, c, d, e, f, g, h, fin8_eq [addN s0 a, addN s1 b, addN s2 c, addN s3 d, addN s4 e, addN s5 f, addN s6 g, addN s7 h] fun l => l⟩
      | cons p kw ih => intro a b c d e f g h; rw [rndsN_cons]; exact ih _ _ _ _ _ _ _ _
    obtain ⟨a, b, c, d, e, f, g, h, he⟩ := key (zipP kl (wsN 48 (w0sN 16 l [])).reverse) s0 s1 s2 s3 s4 s5 s6 s7
    have hp : pressN kl [s0, s1, s2, s3, s4, s5, s6, s7] l = [addN s0 a, addN s1 b, addN s2 c, addN s3 d, addN s4 e, addN s5 f, addN s6 g, addN s7 h] := he
    rw [hp]
    refine ⟨rfl, fun x hx => ?_⟩
    simp only [List.mem_cons, List.not_mem_nil, or_false] at hx
    rcases hx with rfl | rfl | rfl | rfl | rfl | rfl | rfl | rfl <;> exact Nat.mod_lt _ (by decide)
section
variable {P : Program} {hm : P.follows .mixedOrders = true} {glob : Tr (Tr AV)} {w0 : World} {Θ : Pred} {ls : Tr LSpec} {ro : Tr (Tr AV)}
/-- Eight new numbers. -/
theorem grow8 {X : Tabs} {K : Nat → Prop} {E : Env} {w : World} {n nc : Nat} {h : Tr Blk} {l : Tr (List Nat)} {o : Tr Ob} {sh : Tr (Tr AV)} {f : List T} {nz na no : Nat} {nm : List T}
    (hS : StRel X K w0 E ⟨n, nc, h, l, ⟨o, sh, f, nz, na, no, nm⟩⟩ w) {r : List Nat} (hr : r.length = 8) :
    E.Le { E with z := E.z ++ zsOf r } ∧ StRel X K w0 { E with z := E.z ++ zsOf r } ⟨n, nc, h, l, ⟨o, sh, f, Nat.add nz 8, na, no, nm⟩⟩ w ∧ HP E { E with z := E.z ++ zsOf r } ⟨n, nc, h, l, ⟨o, sh, f, nz, na, no, nm⟩⟩ ⟨n, nc, h, l, ⟨o, sh, f, Nat.add nz 8, na, no, nm⟩⟩ ∧
      ∀ (j m : Nat), r[j]? = some m → (E.z ++ zsOf r)[nz + j]? = some (m : Int) := by
  have hle : E.Le { E with z := E.z ++ zsOf r } := ⟨fun _ _ h => h, fun _ _ h => h, by have := Va.le_add E.va (zsOf r) []; rw [Va.add_nil] at this; exact this, fun _ _ h => h, fun k h => ⟨none, h, fun _ e => by cases e⟩⟩
  have hzl : E.z.length = nz := hS.z_eq
  obtain ⟨g1, g2⟩ := hS.grow (st' := ⟨n, nc, h, l, ⟨o, sh, f, Nat.add nz 8, na, no, nm⟩⟩) hle rfl rfl rfl rfl rfl rfl rfl (by simp [zsOf, hzl, hr]) hS.a_eq hS.o_eq (hS.facts.mono hle.va) (hS.ext.names.mono hle.va)
  exact ⟨hle, g1, g2, fun j m hj => by rw [List.getElem?_append_right (by omega), hzl, show nz + j - nz = j by omega]; exact zsOf_get hj⟩
theorem syms_den {E : Env} {k : IntKind} {nz n : Nat} {r : List Nat} (hr : r.length = n) (hz : ∀ (j m : Nat), r[j]? = some m → E.z[nz + j]? = some (m : Int)) (hw : ∀ x ∈ r, (Lit.int k (x : Int)).wf = true) : denL E (symsF k nz n) = some (vals k r) := by
  refine denL_of (by simp [symsF_len, vals, hr]) fun i v hv => ?_
  rw [symsF_get] at hv
  by_cases c : i < n
  · rw [if_pos c] at hv; cases hv
    have hi : r[i]? = some (r[i]'(by omega)) := List.getElem?_eq_getElem (by omega)
    exact ⟨_, den_sym_of (n := ((r[i]'(by omega) : Nat) : Int)) (by simp only [T.ev, Env.va, hz i _ hi]; rfl) (hw _ (List.getElem_mem _)), by simp [vals, hi]⟩
  · rw [if_neg c] at hv; cases hv
theorem zvs_ivs {ρ : Va} {nz n : Nat} {r : List Nat} (hr : r.length = n) (hz : ∀ (j m : Nat), r[j]? = some m → ρ.z[nz + j]? = some (m : Int)) : evL ρ (zvs nz n) = some (ivs r) := by
  have := zvs_ev (ρ := ρ) (gz := zsOf r) (i := nz) fun j m hj => by
    simp only [zsOf, List.getElem?_map, Option.map_eq_some_iff] at hj
    obtain ⟨q, h1, rfl⟩ := hj
    exact hz j q h1
  rw [ivs_zs] at this
  have e : (zsOf r).length = n := by simp [zsOf, hr]
  rw [e] at this; exact this
theorem bytes_at {X : Tabs} (hc : CxOK X (· < w0.heap.size) w0) {E : Env} {st : St} {w : World} (hS : StRel X (· < w0.heap.size) w0 E st w) {k : IntKind} {M : Nat} (hM : ∀ n : Int, (Lit.int k n).wf = true → 0 ≤ n ∧ n < (M : Int)) {q : Nat} {ba : AAddr} {bc : List AV} {tb : List T} (hbc : cellsFrom X.cx st q ba.off ba.b = some bc) (htb : numT k bc = some tb) {ad : Addr} (had : aden E ba = some ad) :
    ∃ l : List Nat, l.length = q ∧ (∀ x ∈ l, x < M) ∧ evL E.va tb = some (ivs l) ∧ (∀ (j m : Nat), l[j]? = some m → w.cell? (ad.add j) = some (.int k (m : Int))) := by
  obtain ⟨ys, g1, g2, _, g4⟩ := cells_sound hc hS (b := ba.b) (o := ba.off) hbc had
  obtain ⟨ns, h1, rfl, h3⟩ := numT_inv htb g1
  obtain ⟨l, rfl, h4⟩ := nats_of (M := M) fun n hn => hM n (h3 n hn)
  rw [vals_zs] at g2 g4
  refine ⟨l, by simpa [vals] using g2, h4, by rw [← ivs_zs]; exact h1, fun j m hj => g4 j _ (by simp [vals, hj])⟩
theorem aden_lt {X : Tabs} {E : Env} {st : St} {w : World} {q : Nat} (hc : CxOK X (· < w0.heap.size) w0) (hS : StRel X (· < w0.heap.size) w0 E st w) {ba : AAddr} {bc : List AV} (hbc : cellsFrom X.cx st q ba.off ba.b = some bc) {ad : Addr} (had : aden E ba = some ad) (hq : 0 < q) : ad = ⟨ad.block, ad.off, none⟩ ∧ ad.block < w.heap.size := by
  obtain ⟨ys, g1, g2, _, g4⟩ := cells_sound hc hS (b := ba.b) (o := ba.off) hbc had
  have h0 := g4 0 (ys[0]'(by omega)) (List.getElem?_eq_getElem (by omega))
  have e : ad = ⟨ad.block, ad.off, none⟩ := by
    obtain ⟨b, off⟩ := ba
    cases b with
    | g n => cases had; rfl
    | r k => obtain ⟨p, _, rfl⟩ := aden_r had; rfl
    | a k => obtain ⟨b, o, _, rfl⟩ := aden_a had; rfl
  refine ⟨e, ?_⟩
  rw [e, add_eq] at h0
  rcases Nat.lt_or_ge ad.block w.heap.size with c | c
  · exact c
  · simp [World.cell?, Array.getElem?_eq_none c] at h0
theorem cellsFrom_cx {cx cx' : Cx} (h1 : cx.glob = cx'.glob) (h2 : cx.ro = cx'.ro) {st : St} {n off : Nat} {b : Bid} {l : List AV} (h : cellsFrom cx st n off b = some l) : cellsFrom cx' st n off b = some l := by
  cases b with
  | g g => show obind (cx'.glob.get g) _ = _; rw [← h1]; exact h
  | r k => exact h
  | a k => show obind (cx'.ro.get k) _ = _; rw [← h2]; exact h
theorem pressB_at {cx : Cx} (hcx : cx.glob = glob) (hcr : cx.ro = ro) {f : FuncId} {kl : List Nat} {p : Nat} (hg : GlobOK glob w0) (hfn : hasFn P f = true) (hp : PressSpecB P f kl) (hΘ : ∀ d, Pθ kl d → Θ p d) : ConAt P hm glob w0 Θ ls ro f (conPressB cx p) := by
  intro con args st k E R w xs hS hx hh
  have hc := cxOf_ok P hm con (ls := ls) (ro := ro) hg
  unfold conPressB at hh
  split at hh
  · rename_i sc ba q c0
    obtain ⟨hq, h0⟩ := vif_inv hh
    rw [Bool.and_eq_true] at hq
    have hq1 := Nat.eq_of_beq_eq_true hq.1
    have hq2 := Nat.eq_of_beq_eq_true hq.2
    rw [lenL_eq] at hq2
    subst hq1
    obtain ⟨bc, hbc, h1⟩ := vbind_inv h0
    obtain ⟨ts, hts, h2⟩ := vbind_inv h1
    obtain ⟨tb, htb, h3⟩ := vbind_inv h2
    obtain ⟨x1, r1, hx1, hr1, rfl⟩ := denL_cons.1 hx
    obtain ⟨x2, r2, hx2, hr2, rfl⟩ := denL_cons.1 hr1
    rw [denL_nil.1 hr2]
    obtain ⟨ss, hss, rfl⟩ := den_agg hx1
    simp only [AV.den] at hx2
    split at hx2
    · rename_i ad cc had hcc
      split at hx2
      · rename_i hle
        cases hx2
        have hbc' : cellsFrom (tabs P hm con glob ls ro).cx st 64 ba.off ba.b = some bc := cellsFrom_cx hcx hcr hbc
        obtain ⟨l, l1, l2, l3, l4⟩ := bytes_at hc hS (fun n => wf_u8) hbc' htb had
        obtain ⟨ea, la⟩ := aden_lt hc hS hbc' had (by decide)
        obtain ⟨ns, n1, rfl, n3⟩ := numT_inv hts hss
        obtain ⟨s, rfl, s2⟩ := nats_of (M := 4294967296) fun n hn => wf_u32 (n3 n hn)
        have s1 : s.length = 8 := by have := denL_length hss; simp [zsOf] at this; omega
        rw [ivs_zs] at n1
        obtain ⟨fn, g1, g2, g3⟩ := hasFn_inv hfn
        rw [callFunc_enter (P := P) g1 g2 g3]
        show CallsIn (FW none) 0 P f _ w _
        have hcl := hp (w := w) (bb := ad.block) (ob := ad.off) (c := cc) s1 s2 l1 l2 la (fun i m hi => by
          have := l4 i m hi
          rw [ea, add_eq] at this
          rw [Nat.add_comm]; exact this) hle
        have eargs : #[Value.agg (s.map fun (m : Nat) => Value.int .u32 (m : Int)).toArray, .slice (some ⟨ad.block, ad.off, none⟩) 64 cc] = [Value.agg ((zsOf s).map (Value.int .u32)).toArray, .slice (some ad) 64 cc].toArray := by
          rw [vals_zs, ea]; rfl
        rw [eargs] at hcl
        refine (callsIn_wide.2 hcl).mono fun e w' ⟨he, hb⟩ => ?_
        subst he
        obtain ⟨q1, q2⟩ := pressN_len (kl := kl) (l := l) s1
        obtain ⟨n, nc, hp', lv, o, sh, fx, nz, na, no, nm⟩ := st
        obtain ⟨t1, t2, t3, t4⟩ := grow8 hS q1
        have hz : ({ E with z := E.z ++ zsOf (pressN kl s l) } : Env).va = E.va.add (zsOf (pressN kl s l)) [] := by rw [Va.add_nil]; rfl
        have h5 := h3 (zsOf (pressN kl s l)) [] (by simp [zsOf, q1]) rfl (by
          intro x hx
          rw [List.mem_singleton.1 hx, ← hz]
          exact ⟨_, evL_append (evL_mono t1.va n1) (evL_append (evL_mono t1.va l3) (zvs_ivs (ρ := (_ : Env).va) q1 t4)), hΘ _ ⟨s, l, s1, l1, s2, l2, rfl⟩⟩)
        rw [← hz, natK_eq] at h5
        exact ⟨_, _, _, R, List.prefix_rfl, h5, t1, t2.grown (Kept.of_below hb), t3, den_agg_of (syms_den q1 t4 fun x hx => u32_wf (q2 x hx))⟩
      · cases hx2
    · cases hx2
  · exact hh.elim
theorem press_at {cx : Cx} (hcx : cx.glob = glob) (hcr : cx.ro = ro) {f : FuncId} {kl : List Nat} {p : Nat} (hg : GlobOK glob w0) (hfn : hasFn P f = true) (hkz : ∀ x ∈ kl, x < 4294967296) (hp : PressSpec P f kl) (hΘ : ∀ d, Pθ kl d → Θ p d) : ConAt P hm glob w0 Θ ls ro f (conPress cx kl p) := by
  intro con args st k E R w xs hS hx hh
  have hc := cxOf_ok P hm con (ls := ls) (ro := ro) hg
  unfold conPress at hh
  split at hh
  · rename_i s0 ka ba q c0
    obtain ⟨hq, h0⟩ := vif_inv hh
    have hq1 := Nat.eq_of_beq_eq_true hq
    subst hq1
    obtain ⟨b, hb, h1⟩ := vbind_inv h0
    obtain ⟨hap, h2⟩ := vif_inv h1
    simp only [Bool.and_eq_true] at hap
    have hsz := Nat.eq_of_beq_eq_true hap.1
    obtain ⟨kc, hkc, h3⟩ := vbind_inv h2
    obtain ⟨hkk, h4⟩ := vif_inv h3
    have hkk := sameL_eq hkk
    subst hkk
    obtain ⟨sc, hsc, h5⟩ := vbind_inv h4
    obtain ⟨bc, hbc, h6⟩ := vbind_inv h5
    obtain ⟨ts, hts, h7⟩ := vbind_inv h6
    obtain ⟨tb, htb, h8⟩ := vbind_inv h7
    obtain ⟨x1, r1, hx1, hr1, rfl⟩ := denL_cons.1 hx
    obtain ⟨x2, r2, hx2, hr2, rfl⟩ := denL_cons.1 hr1
    obtain ⟨x3, r3, hx3, hr3, rfl⟩ := denL_cons.1 hr2
    rw [denL_nil.1 hr3]
    obtain ⟨a1, ha1, rfl⟩ := den_ptr hx1
    obtain ⟨a2, ha2, rfl⟩ := den_ptr hx2
    obtain ⟨p1, hp1, rfl⟩ := aden_r ha1
    simp only [AV.den] at hx3
    split at hx3
    · rename_i ad cc had hcc
      split at hx3
      · rename_i hle
        cases hx3
        have hbc' : cellsFrom (tabs P hm con glob ls ro).cx st 64 ba.off ba.b = some bc := cellsFrom_cx hcx hcr hbc
        have hkc' : cellsFrom (tabs P hm con glob ls ro).cx st 64 ka.off ka.b = some (intsF .u32 kl) := cellsFrom_cx hcx hcr hkc
        obtain ⟨l, l1, l2, l3, l4⟩ := bytes_at hc hS (fun n => wf_u8) hbc' htb had
        obtain ⟨ea, la⟩ := aden_lt hc hS hbc' had (by decide)
        obtain ⟨ek, lk⟩ := aden_lt hc hS hkc' ha2 (by decide)
        obtain ⟨ys, y1, y2, _, y4⟩ := cells_sound hc hS (b := ka.b) (o := ka.off) hkc' ha2
        have far : ∀ {x : AAddr} {y : Addr} {lx : List AV}, apart st b x.b = true → aden E x = some y → cellsFrom (tabs P hm con glob ls ro).cx st 64 x.off x.b = some lx → y.block ≠ p1.1 := by
          intro x y lx hx hy hl e
          obtain ⟨bb, off⟩ := x
          have hno := (hS.ids s0 p1 hp1).1
          cases bb with
          | g n =>
            cases hy
            obtain ⟨t, ht, _⟩ := obind_inv hl
            exact hno (by rw [← show n = p1.1 from e]; exact (hc.glob n t ht).1)
          | a n =>
            obtain ⟨b', o', ho, rfl⟩ := aden_a hy
            obtain ⟨t, ht, _⟩ := obind_inv hl
            obtain ⟨b2, o2, e1, e2, _⟩ := hS.ext.ro n t ht
            rw [ho] at e1; cases e1
            exact hno (by rw [← show b' = p1.1 from e]; exact e2)
          | r n =>
            obtain ⟨p2, hp2, rfl⟩ := aden_r hy
            have hx : (Option.rec false (fun b2 => not (Nat.beq b2.fam b.fam)) (st.heap.get n) : Bool) = true := hx
            cases hn : st.heap.get n with
            | none => rw [hn] at hx; cases hx
            | some b2 =>
              rw [hn] at hx
              have hx : (!(Nat.beq b2.fam b.fam)) = true := hx
              have hne : b2.fam ≠ b.fam := fun e => by rw [e] at hx; simp at hx
              exact hS.fams n s0 b2 b _ _ _ _ hn hb hp2 hp1 hne e
        obtain ⟨cs, el, fr, hh2, hr⟩ := blk_of hS hb hp1
        have hsc' : cellsFrom (tabs P hm con glob ls ro).cx st 8 0 (.r s0) = some sc := cellsFrom_cx hcx hcr hsc
        obtain ⟨ss, z1, z2, _, z4⟩ := cells_sound hc hS (b := .r s0) (o := 0) hsc' ha1
        obtain ⟨ns, n1, rfl, n3⟩ := numT_inv hts z1
        obtain ⟨s, rfl, s2⟩ := nats_of (M := 4294967296) fun n hn => wf_u32 (n3 n hn)
        have s1 : s.length = 8 := by simpa [zsOf] using z2
        rw [ivs_zs] at n1
        rw [vals_zs] at z4
        have hys : ys = vals .u32 kl := by
          have : denL E (intsF .u32 kl) = some (vals .u32 kl) := by
            rw [intsF_eq]
            refine denL_of (by simp [vals]) fun i v hv => ?_
            rw [List.getElem?_map, Option.map_eq_some_iff] at hv
            obtain ⟨m, hm1, rfl⟩ := hv
            have hlt := hkz m (List.mem_of_getElem? hm1)
            exact ⟨_, by rw [den_int_of (k := .u32) hlt, sgn_nat .u32 hlt], by simp [vals, hm1]⟩
          rw [this] at y1; exact (Option.some.inj y1).symm
        subst hys
        obtain ⟨fn, g1, g2, g3⟩ := hasFn_inv hfn
        rw [callFunc_enter (P := P) g1 g2 g3]
        show CallsIn (FW none) 0 P f _ w _
        have hcl := hp (w := w) (bs := p1.1) (os := 0 + p1.2) (bk := a2.block) (ok := a2.off) (bb := ad.block) (ob := ad.off) (c := cc) hh2 hr.free (by have := hr.room; omega) s1 s2 (fun i m hi => by
            have := z4 i _ (show (vals .u32 s)[i]? = some (Value.int .u32 (m : Int)) by simp [vals, hi])
            rw [add_eq] at this
            simp only [World.cell?, hh2] at this
            rw [Nat.add_comm]; exact this) l1 l2 ⟨far hap.2.2.1 ha2 hkc', lk⟩ (fun i m hi => by
            have := y4 i _ (show (vals .u32 kl)[i]? = some (Value.int .u32 (m : Int)) by simp [vals, hi])
            rw [ek, add_eq] at this
            rw [Nat.add_comm]; exact this) ⟨far hap.2.2.2 had hbc', la⟩ (fun i m hi => by
            have := l4 i m hi
            rw [ea, add_eq] at this
            rw [Nat.add_comm]; exact this) hle
        have eargs : #[Value.pointer (some ⟨p1.1, 0 + p1.2, none⟩), .pointer (some ⟨a2.block, a2.off, none⟩), .slice (some ⟨ad.block, ad.off, none⟩) 64 cc] = [Value.pointer (some ⟨p1.1, 0 + p1.2, none⟩), .pointer (some a2), .slice (some ad) 64 cc].toArray := by
          rw [← ea, ← ek]
        rw [eargs] at hcl
        refine (callsIn_wide.2 hcl).mono fun e w' ⟨he, hkw, cs', el', fr', k1, k2, k3, k4⟩ => ?_
        subst he
        obtain ⟨q1, q2⟩ := pressN_len (kl := kl) (l := l) s1
        obtain ⟨n, nc, hp', lv, o, sh, fx, nz, na, no, nm⟩ := st
        obtain ⟨t1, t2, t3, t4⟩ := grow8 hS q1
        have hz : ({ E with z := E.z ++ zsOf (pressN kl s l) } : Env).va = E.va.add (zsOf (pressN kl s l)) [] := by rw [Va.add_nil]; rfl
        have h9 := h8 (zsOf (pressN kl s l)) [] (by simp [zsOf, q1]) rfl (by
          intro x hx
          rw [List.mem_singleton.1 hx, ← hz]
          exact ⟨_, evL_append (evL_mono t1.va n1) (evL_append (evL_mono t1.va l3) (zvs_ivs (ρ := (_ : Env).va) q1 t4)), hΘ _ ⟨s, l, s1, l1, s2, l2, rfl⟩⟩)
        rw [← hz, natK_eq, putsK_eq] at h9
        obtain ⟨h', l', e1, hget, hlive⟩ := putBlk_eq (⟨n, nc, hp', lv, ⟨o, sh, fx, Nat.add nz 8, na, no, nm⟩⟩ : St) s0 b (puts (symsF .u32 nz 8) 0 b.cells) (fun st => k (.tuple []) st)
        rw [e1] at h9
        have hsyms := syms_den (E := { E with z := E.z ++ zsOf (pressN kl s l) }) (k := .u32) (nz := nz) q1 t4 fun x hx => u32_wf (q2 x hx)
        have hblk : BlkRel ({ E with z := E.z ++ zsOf (pressN kl s l) } : Env) { b with cells := puts (symsF .u32 nz 8) 0 b.cells } p1.2 cs' fr' := by
          refine ⟨k2, by show b.sz + p1.2 ≤ _; omega, fun i v hv => ?_, fun i hi => ?_, fun i v hv => ?_⟩
          · have hv : (puts (symsF .u32 nz 8) 0 b.cells).get i = some v := hv
            rw [puts_get, symsF_len] at hv
            show i < b.sz
            by_cases c : 0 ≤ i ∧ i < 0 + 8
            · omega
            · rw [if_neg c] at hv; exact hr.bnd i v hv
          · have hi : b.cv = i + 1 := hi
            have := Nat.eq_of_beq_eq_true hap.2.1
            omega
          · rw [cell_eq] at hv
            have hv : (match (puts (symsF .u32 nz 8) 0 b.cells).get i with | some v => some v | none => if i < b.sz then (match b.zn with | 0 => none | j + 1 => b.z[i % (j + 1)]?) else none) = some v := hv
            rw [puts_get, symsF_len] at hv
            by_cases c : 0 ≤ i ∧ i < 0 + 8
            · rw [if_pos c, Nat.sub_zero, symsF_get, if_pos (by omega)] at hv
              cases hv
              obtain ⟨y, d1, d2⟩ := denL_get hsyms (i := i) (v := .sym .u32 (.zv (nz + i))) (by rw [symsF_get, if_pos (by omega)])
              have hi : (pressN kl s l)[i]? = some ((pressN kl s l)[i]'(by omega)) := List.getElem?_eq_getElem (by omega)
              have := k4 i _ hi
              simp only [vals, List.getElem?_map, hi, Option.map_some, Option.some.injEq] at d2
              subst d2
              exact ⟨_, d1, by rw [Nat.zero_add] at this; exact this⟩
            · rw [if_neg c] at hv
              cases hbc2 : b.cells.get i with
              | some y => have := hr.bnd i y hbc2; omega
              | none =>
                rw [hbc2] at hv
                simp only at hv
                rw [if_neg (by omega)] at hv; cases hv
        exact ⟨_, _, _, R, List.prefix_rfl, h9, t1, storedW (b' := { b with cells := puts (symsF .u32 nz 8) 0 b.cells }) t2 hb hp1 hh2 hkw k1 rfl hblk hget hlive, t3.trans (hp_stored t2 hb hp1 hget hlive), rfl⟩
      · cases hx3
    · cases hx3
  · exact hh.elim
end
end Sha
end Go.Sy
/-! The constants: products, differences; the loop over the digits. -/
namespace Go.Sy
open Go.RowKit (Below)
open Go.Proofs (sub64Entry run_sub64)
namespace Sha
/-! ### Conditions that are the same -/
noncomputable def asmSame : Asm → Asm → Bool
  | .c a, .c b => T.beq a b
  | .p i l, .p j m => Nat.beq i j && eqTs l m
  | .lt a x y, .lt b u v => T.beq a b && (eqTs x u && eqTs y v)
  | _, _ => false
noncomputable def asmsSame : List Asm → List Asm → Bool
  | [], [] => true
  | a :: l, b :: m => asmSame a b && asmsSame l m
  | _, _ => false
noncomputable def vcSame (v : VC) : VC → Bool :=
  VC.rec (motive := fun _ => VC → Bool) (fun w => match w with | .ok => true | _ => false) (fun _ => false) (fun c _ _ p q w => match w with | .br d a b => T.beq c d && (p a && q b) | _ => false) (fun c _ p w => match w with | .need d a => T.beq c d && p a | _ => false)
    (fun _ _ p q w => match w with | .both a b => p a && q b | _ => false) (fun n m h _ p w => match w with | .all n' m' h' a => Nat.beq n n' && (Nat.beq m m' && (asmsSame h h' && p a)) | _ => false) (fun h w => match w with | .must h' => asmsSame h h' | _ => false) v
theorem asmSame_eq {a b : Asm} (h : asmSame a b = true) : a = b := by
  cases a <;> cases b <;> simp only [asmSame, Bool.and_eq_true] at h <;> first | (cases h; done) | skip
  · rw [T.beq_eq h]
  · rw [Nat.eq_of_beq_eq_true h.1, eqTs_eq h.2]
  · rw [T.beq_eq h.1, eqTs_eq h.2.1, eqTs_eq h.2.2]
theorem asmsSame_eq : ∀ {a b : List Asm}, asmsSame a b = true → a = b
  | [], [], _ => rfl
  | a :: l, b :: m, h => by
    simp only [asmsSame, Bool.and_eq_true] at h
    rw [asmSame_eq h.1, asmsSame_eq h.2]
  | [], _ :: _, h => by cases h
  | _ :: _, [], h => by cases h
theorem vcSame_eq : ∀ {v w : VC}, vcSame v w = true → v = w := by
  intro v
  induction v with
  | ok => intro w h; cases w <;> first | rfl | cases h
  | bad => intro w h; cases h
  | br c x y ih1 ih2 =>
    intro w h; cases w <;> first | (cases h; done) | skip
    rename_i d a b
    have h : (T.beq c d && (vcSame x a && vcSame y b)) = true := h
    simp only [Bool.and_eq_true] at h
    rw [T.beq_eq h.1, ih1 h.2.1, ih2 h.2.2]
  | need c x ih =>
    intro w h; cases w <;> first | (cases h; done) | skip
    rename_i d a
    have h : (T.beq c d && vcSame x a) = true := h
    simp only [Bool.and_eq_true] at h
    rw [T.beq_eq h.1, ih h.2]
  | both x y ih1 ih2 =>
    intro w h; cases w <;> first | (cases h; done) | skip
    rename_i a b
    have h : (vcSame x a && vcSame y b) = true := h
    simp only [Bool.and_eq_true] at h
    rw [ih1 h.1, ih2 h.2]
  | all n m hh x ih =>
    intro w h; cases w <;> first | (cases h; done) | skip
    rename_i n' m' h' a
    have h : (Nat.beq n n' && (Nat.beq m m' && (asmsSame hh h' && vcSame x a))) = true := h
    simp only [Bool.and_eq_true] at h
    rw [Nat.eq_of_beq_eq_true h.1, Nat.eq_of_beq_eq_true h.2.1, asmsSame_eq h.2.2.1, ih h.2.2.2]
  | must hh =>
    intro w h; cases w <;> first | (cases h; done) | skip
    rename_i h'
    have h : asmsSame hh h' = true := h
    rw [asmsSame_eq h]

/-! ### Words of 64 bits -/
def Nv6 (ρ : Va) (t : T) (n : Nat) : Prop := t.ev ρ = some (.i (n : Int)) ∧ n < 18446744073709551616
section
variable {ρ : Va} {x y : T} {a b : Nat}
theorem wrap_u64 (n : Nat) : IntKind.u64.wrap (n : Int) = ((n % 18446744073709551616 : Nat) : Int) := by
  simp [IntKind.wrap, IntKind.signed, IntKind.bits]
theorem u64_wf {n : Nat} (h : n < 18446744073709551616) : (Lit.int .u64 (n : Int)).wf = true := by
  simp [Lit.wf, IntKind.min, IntKind.max, IntKind.signed, IntKind.bits]; omega
theorem wf_u64 {n : Int} (h : (Lit.int .u64 n).wf = true) : 0 ≤ n ∧ n < ((18446744073709551616 : Nat) : Int) := by
  have := wf_range h; simp [minOf, maxOf] at this; omega
theorem Nv6.add (hx : Nv6 ρ x a) (hy : Nv6 ρ y b) : Nv6 ρ (.bin .add .u64 x y) ((a + b) % 18446744073709551616) := by
  refine ⟨?_, Nat.mod_lt _ (by decide)⟩
  simp only [T.ev, hx.1, hy.1, zar, Option.map_some]
  rw [show (a : Int) + b = ((a + b : Nat) : Int) by omega, wrap_u64]
theorem Nv6.mul (hx : Nv6 ρ x a) (hy : Nv6 ρ y b) : Nv6 ρ (.bin .mul .u64 x y) ((a * b) % 18446744073709551616) := by
  refine ⟨?_, Nat.mod_lt _ (by decide)⟩
  simp only [T.ev, hx.1, hy.1, zar, Option.map_some]
  rw [show (a : Int) * b = ((a * b : Nat) : Int) by push_cast; rfl, wrap_u64]
theorem ofInt_nat64 (n : Nat) : BitVec.ofInt 64 (n : Int) = BitVec.ofNat 64 n := by
  apply BitVec.eq_of_toNat_eq; simp
theorem Nv6.or (hx : Nv6 ρ x a) (hy : Nv6 ρ y b) : Nv6 ρ (.bin .or .u64 x y) (a ||| b) := by
  have hlt : a ||| b < 18446744073709551616 := Nat.or_lt_two_pow (n := 64) hx.2 hy.2
  refine ⟨?_, hlt⟩
  simp only [T.ev, hx.1, hy.1, zar, Option.map_some]
  have : (BitVec.ofInt IntKind.u64.bits (a : Int) ||| BitVec.ofInt IntKind.u64.bits (b : Int)).toNat = a ||| b := by
    show (BitVec.ofInt 64 (a : Int) ||| BitVec.ofInt 64 (b : Int)).toNat = a ||| b
    rw [ofInt_nat64, ofInt_nat64, BitVec.toNat_or, BitVec.toNat_ofNat, BitVec.toNat_ofNat, Nat.mod_eq_of_lt (b := 2 ^ 64) hx.2, Nat.mod_eq_of_lt (b := 2 ^ 64) hy.2]
  rw [this, wrap_u64, Nat.mod_eq_of_lt hlt]
theorem Nv6.mask (hx : Nv6 ρ x a) : Nv6 ρ (.bin .and .u64 x (.z 4294967295)) (a % 4294967296) := by
  have hlt : a % 4294967296 < 18446744073709551616 := by omega
  refine ⟨?_, hlt⟩
  simp only [T.ev, hx.1, zar, Option.map_some]
  have : (BitVec.ofInt IntKind.u64.bits (a : Int) &&& BitVec.ofInt IntKind.u64.bits (4294967295 : Int)).toNat = a % 4294967296 := by
    show (BitVec.ofInt 64 (a : Int) &&& BitVec.ofInt 64 ((4294967295 : Nat) : Int)).toNat = _
    rw [ofInt_nat64, ofInt_nat64, BitVec.toNat_and, BitVec.toNat_ofNat, BitVec.toNat_ofNat, Nat.mod_eq_of_lt (b := 2 ^ 64) hx.2]
    exact Nat.and_two_pow_sub_one_eq_mod a 32
  rw [this, wrap_u64, Nat.mod_eq_of_lt hlt]
theorem Nv6.shr (hx : Nv6 ρ x a) (n : Nat) (hn : n ≤ 64) : Nv6 ρ (.bin .shr .u64 x (.z (n : Int))) (a / 2 ^ n) := by
  have hlt : a / 2 ^ n < 18446744073709551616 := Nat.lt_of_le_of_lt (Nat.div_le_self _ _) hx.2
  refine ⟨?_, hlt⟩
  simp only [T.ev, hx.1, zar, IntKind.bits]
  rw [if_neg (by omega), show ((n : Int).toNat) = n by simp, Nat.min_eq_left hn, Option.map_some]
  rw [show (2 : Int) ^ n = ((2 ^ n : Nat) : Int) by push_cast; rfl]
  rw [Int.fdiv_eq_ediv_of_nonneg _ (Int.natCast_nonneg _)]; rfl
end
def m32 (x : T) : T := .bin .and .u64 x (.z 4294967295)
def r32 (x : T) : T := .bin .shr .u64 x (.z 32)
def ml (x y : T) : T := .bin .mul .u64 x y
def pl (x y : T) : T := .bin .add .u64 x y
def tT : T := pl (ml (r32 (.zv 0)) (m32 (.zv 1))) (r32 (ml (m32 (.zv 0)) (m32 (.zv 1))))
def hiT : T := pl (pl (ml (r32 (.zv 0)) (r32 (.zv 1))) (r32 tT)) (r32 (pl (m32 tT) (ml (m32 (.zv 0)) (r32 (.zv 1)))))
noncomputable def mulK : Res → VC
  | .val (.tuple l) _ => vif (sameL l [.sym .u64 hiT, .sym .u64 (ml (.zv 0) (.zv 1))]) .ok
  | _ => .bad
noncomputable def stM : St := ⟨0, 0, .nil, .nil, ⟨.nil, .nil, [], 2, 0, 0, []⟩⟩
theorem hi_val {ρ : Va} {x y : Nat} (hx : x < 18446744073709551616) (hy : y < 18446744073709551616) (h0 : ρ.z[0]? = some (x : Int)) (h1 : ρ.z[1]? = some (y : Int)) : Nv6 ρ hiT (x * y / 18446744073709551616) ∧ Nv6 ρ (ml (.zv 0) (.zv 1)) (x * y % 18446744073709551616) := by
  have z0 : Nv6 ρ (.zv 0) x := ⟨by simp [T.ev, h0], hx⟩
  have z1 : Nv6 ρ (.zv 1) y := ⟨by simp [T.ev, h1], hy⟩
  refine ⟨?_, z0.mul z1⟩
  have hs : ∀ {t : T} {n : Nat}, Nv6 ρ t n → Nv6 ρ (r32 t) (n / 4294967296) := fun h => h.shr 32 (by decide)
  obtain ⟨bd, bt, bw, hhi⟩ := Lib.mul64_hi x y hx hy
  have ba := Lib.half_mul_le (a := x / 4294967296) (b := y / 4294967296) (by omega) (by omega)
  have bb := Lib.half_mul_le (a := x / 4294967296) (b := y % 4294967296) (by omega) (by omega)
  have bc := Lib.half_mul_le (a := x % 4294967296) (b := y / 4294967296) (by omega) (by omega)
  have ba' : x / 4294967296 * (y / 4294967296) < 18446744073709551616 := by omega
  have bb' : x / 4294967296 * (y % 4294967296) < 18446744073709551616 := by omega
  have bc' : x % 4294967296 * (y / 4294967296) < 18446744073709551616 := by omega
  have t0 := (((hs z0).mul z1.mask)).add (hs (z0.mask.mul z1.mask))
  rw [Nat.mod_eq_of_lt bb', Nat.mod_eq_of_lt bd, Nat.mod_eq_of_lt bt] at t0
  have w0 := t0.mask.add (z0.mask.mul (hs z1))
  rw [Nat.mod_eq_of_lt bc', Nat.mod_eq_of_lt bw] at w0
  have a0 := ((hs z0).mul (hs z1)).add (hs t0)
  have bh1 : x / 4294967296 * (y / 4294967296) + (x / 4294967296 * (y % 4294967296) + x % 4294967296 * (y % 4294967296) / 4294967296) / 4294967296 < 18446744073709551616 := by omega
  rw [Nat.mod_eq_of_lt ba', Nat.mod_eq_of_lt bh1] at a0
  have f0 := a0.add (hs w0)
  have bh : x / 4294967296 * (y / 4294967296) + (x / 4294967296 * (y % 4294967296) + x % 4294967296 * (y % 4294967296) / 4294967296) / 4294967296 + ((x / 4294967296 * (y % 4294967296) + x % 4294967296 * (y % 4294967296) / 4294967296) % 4294967296 + x % 4294967296 * (y / 4294967296)) / 4294967296 < 18446744073709551616 := by omega
  rw [Nat.mod_eq_of_lt bh, hhi] at f0
  exact f0
end Sha
end Go.Sy
/-! The constants. -/
namespace Go.Sy
open Go.RowKit (Below)
open Go.Proofs (sub64Entry run_sub64)
namespace Sha
/-! ### Contracts by relations -/
noncomputable def conRel (g : List AV → Bool) (m p : Nat) : Con := fun args st K => vif (g args) <| vbind (numT .u64 args) fun ts => match st with
  | ⟨n, nc, h, l, ⟨o, sh, f, nz, na, no, nm⟩⟩ => .all m 0 [.p p (ts ++ zvs nz m)] <| natK (Nat.add nz m) fun nz' => K (.tuple (symsF .u64 nz m)) ⟨n, nc, h, l, ⟨o, sh, f, nz', na, no, nm⟩⟩
def RelSpec (P : Program) (f : FuncId) (g : List AV → Bool) (m : Nat) (Q : List Nat → List Nat → Prop) : Prop :=
  ∀ (args : List AV) (E : Env) (ins : List Nat), g args = true → denL E args = some (vals .u64 ins) → (∀ x ∈ ins, x < 18446744073709551616) → ∀ w, ∃ outs, outs.length = m ∧ (∀ x ∈ outs, x < 18446744073709551616) ∧ Q ins outs ∧
    OpRes P (fun v w' => v = .tuple (vals .u64 outs).toArray ∧ Below w.heap.size w w') ((callFunc f (vals .u64 ins).toArray).run P w)
def Qθ (Q : List Nat → List Nat → Prop) (d : List D) : Prop := ∃ ins outs, Q ins outs ∧ d = ivs ins ++ ivs outs
section
variable {P : Program} {hm : P.follows .mixedOrders = true} {glob : Tr (Tr AV)} {w0 : World} {Θ : Pred} {ls : Tr LSpec} {ro : Tr (Tr AV)}
theorem growN {X : Tabs} {K : Nat → Prop} {E : Env} {w : World} {n nc m : Nat} {h : Tr Blk} {l : Tr (List Nat)} {o : Tr Ob} {sh : Tr (Tr AV)} {f : List T} {nz na no : Nat} {nm : List T}
    (hS : StRel X K w0 E ⟨n, nc, h, l, ⟨o, sh, f, nz, na, no, nm⟩⟩ w) {r : List Nat} (hr : r.length = m) :
    E.Le { E with z := E.z ++ zsOf r } ∧ StRel X K w0 { E with z := E.z ++ zsOf r } ⟨n, nc, h, l, ⟨o, sh, f, Nat.add nz m, na, no, nm⟩⟩ w ∧ HP E { E with z := E.z ++ zsOf r } ⟨n, nc, h, l, ⟨o, sh, f, nz, na, no, nm⟩⟩ ⟨n, nc, h, l, ⟨o, sh, f, Nat.add nz m, na, no, nm⟩⟩ ∧
      ∀ (j q : Nat), r[j]? = some q → (E.z ++ zsOf r)[nz + j]? = some (q : Int) := by
  have hle : E.Le { E with z := E.z ++ zsOf r } := ⟨fun _ _ h => h, fun _ _ h => h, by have := Va.le_add E.va (zsOf r) []; rw [Va.add_nil] at this; exact this, fun _ _ h => h, fun k h => ⟨none, h, fun _ e => by cases e⟩⟩
  have hzl : E.z.length = nz := hS.z_eq
  obtain ⟨g1, g2⟩ := hS.grow (st' := ⟨n, nc, h, l, ⟨o, sh, f, Nat.add nz m, na, no, nm⟩⟩) hle rfl rfl rfl rfl rfl rfl rfl (by simp [zsOf, hzl, hr]) hS.a_eq hS.o_eq (hS.facts.mono hle.va) (hS.ext.names.mono hle.va)
  exact ⟨hle, g1, g2, fun j q hj => by rw [List.getElem?_append_right (by omega), hzl, show nz + j - nz = j by omega]; exact zsOf_get hj⟩
theorem rel_at {f : FuncId} {g : List AV → Bool} {m p : Nat} {Q : List Nat → List Nat → Prop} (h : RelSpec P f g m Q) (hΘ : ∀ d, Qθ Q d → Θ p d) : ConAt P hm glob w0 Θ ls ro f (conRel g m p) := by
  intro con args st k E R w xs hS hx hh
  obtain ⟨hg, h1⟩ := vif_inv hh
  obtain ⟨ts, hts, h2⟩ := vbind_inv h1
  obtain ⟨ns, n1, rfl, n3⟩ := numT_inv hts hx
  obtain ⟨ins, rfl, i2⟩ := nats_of (M := 18446744073709551616) fun n hn => wf_u64 (n3 n hn)
  rw [ivs_zs] at n1
  rw [vals_zs] at hx ⊢
  obtain ⟨outs, o1, o2, hQ, hres⟩ := h args E ins hg hx i2 w
  refine hres.mono fun v w' ⟨hv, hb⟩ => ?_
  subst hv
  obtain ⟨n, nc, hp', lv, o, sh, fx, nz, na, no, nm⟩ := st
  obtain ⟨t1, t2, t3, t4⟩ := growN hS o1
  have hz : ({ E with z := E.z ++ zsOf outs } : Env).va = E.va.add (zsOf outs) [] := by rw [Va.add_nil]; rfl
  have h5 := h2 (zsOf outs) [] (by simp [zsOf, o1]) rfl (by
    intro x hx
    rw [List.mem_singleton.1 hx, ← hz]
    exact ⟨_, evL_append (evL_mono t1.va n1) (zvs_ivs (ρ := (_ : Env).va) o1 t4), hΘ _ ⟨ins, outs, hQ, rfl⟩⟩)
  rw [← hz, natK_eq] at h5
  exact ⟨_, _, _, R, List.prefix_rfl, h5, t1, t2.grown (Kept.of_below hb), t3, den_tuple_of (syms_den o1 t4 fun x hx => u64_wf (o2 x hx))⟩
def Qmul (ins outs : List Nat) : Prop := ∃ x y, ins = [x, y] ∧ outs = [x * y / 18446744073709551616, x * y % 18446744073709551616]
noncomputable def gmul : List AV → Bool
  | [_, _] => true
  | _ => false
theorem mul_spec (hm : P.follows .mixedOrders = true) {n f : Nat} (hfn : hasFn P f = true) (h : (runX P .nil .nil n (.call f [.sym .u64 (.zv 0), .sym .u64 (.zv 1)]) mulK .nil .nil stM).triv = true) : RelSpec P f gmul 2 Qmul := by
  intro args E ins hg hd hi w
  have hl : ins.length = 2 := by
    have := denL_length hd
    unfold gmul at hg
    split at hg
    · simpa [vals] using this
    · cases hg
  match ins, hl with
  | [x, y], _ =>
    have hx := hi x (by simp)
    have hy := hi y (by simp)
    have hlt : x * y / 18446744073709551616 < 18446744073709551616 := by
      refine Nat.div_lt_of_lt_mul ?_
      exact Nat.mul_lt_mul_of_lt_of_lt hx hy
    refine ⟨[x * y / 18446744073709551616, x * y % 18446744073709551616], rfl, fun q hq => ?_, ⟨x, y, rfl, rfl⟩, ?_⟩
    · simp only [List.mem_cons, List.not_mem_nil, or_false] at hq
      rcases hq with rfl | rfl
      · exact hlt
      · exact Nat.mod_lt _ (by decide)
    · obtain ⟨fn, g1, g2, g3⟩ := hasFn_inv hfn
      rw [callFunc_enter (P := P) g1 g2 g3]
      show CallsIn (FW none) 0 P f _ w _
      rw [runX_eq] at h
      have hS : StRel (tabs P hm .nil .nil .nil .nil) (· < w.heap.size) w ⟨[], [], [(x : Int), (y : Int)], [], []⟩ stM w :=
        ⟨rfl, rfl, rfl, rfl, rfl, fun _ h => h, .refl _ _, fun k p h => by simp at h, fun k b h => by simp [stM] at h, fun k b h => by simp [stM] at h, fun k1 k2 b1 b2 id1 sh1 id2 sh2 h => by simp [stM] at h, fun f l h => by simp [stM] at h,
         fun k b h => by simp [stM] at h, fun k b h => by simp [stM] at h, fun k1 k2 o1 o2 p h => by simp [stM] at h, fun k o h => by simp [stM] at h, fun c hc => (by cases hc), fun k b p h => by simp [stM] at h, fun f l h => by simp [stM] at h, ⟨fun i t h => by simp [tabs, cxWith] at h, fun c hc => (by cases hc)⟩⟩
      have hargs : denL (⟨[], [], [(x : Int), (y : Int)], [], []⟩ : Env) [.sym .u64 (.zv 0), .sym .u64 (.zv 1)] = some (vals .u64 [x, y]) :=
        denL_cons.2 ⟨_, _, den_sym_of (n := (x : Int)) (by simp [T.ev, Env.va]) (u64_wf hx), denL_cons.2 ⟨_, _, den_sym_of (n := (y : Int)) (by simp [T.ev, Env.va]) (u64_wf hy), rfl, rfl⟩, rfl⟩
      refine (callsIn_wide.2 (calls_of_runE (X := tabs P hm .nil .nil .nil .nil) (cxOK_nil P hm _ w) (fnsOK_nil P hm _ w (fun _ _ => True)) (R := []) hS hargs (triv_holds h) hfn)).mono fun e w' ⟨v, he, ho⟩ => ?_
      subst he
      obtain ⟨v', st', E', R', _, h2, h3, h4, _, h6⟩ := ho
      refine ⟨?_, Kept.below h4.kept⟩
      unfold mulK at h2
      split at h2
      · rename_i l st e
        cases e
        obtain ⟨h2, _⟩ := vif_inv h2
        have e1 := same_both.2 _ _ h2
        subst e1
        have hv := hi_val hx hy (h3.va.1 0 _ rfl) (h3.va.1 1 _ rfl)
        have : denL E' [.sym .u64 hiT, .sym .u64 (ml (.zv 0) (.zv 1))] = some (vals .u64 [x * y / 18446744073709551616, x * y % 18446744073709551616]) :=
          denL_cons.2 ⟨_, _, den_sym_of hv.1.1 (u64_wf hv.1.2), denL_cons.2 ⟨_, _, den_sym_of hv.2.1 (u64_wf hv.2.2), rfl, rfl⟩, rfl⟩
        rw [den_tuple_of this] at h6
        exact (Option.some.inj h6).symm
      · exact h2.elim
def Qsub (ins outs : List Nat) : Prop := ∃ x y b, ins = [x, y, b] ∧ outs = [(x + 18446744073709551616 - y - b) % 18446744073709551616, if x < y + b then 1 else 0]
noncomputable def gsub : List AV → Bool
  | [_, _, .int .u64 b] => Nat.ble b 1
  | _ => false
theorem sub_spec {f : FuncId} {fn : Func} (hf : P.funcs[f]? = some fn) (hname : (fn.name == "runtime.NumGoroutine") = false) (hb : fn.body.isNone = true) (hn : Extern.findNext fn = none) (he : Extern.find fn = some sub64Entry) : RelSpec P f gsub 2 Qsub := by
  intro args E ins hg hd hi w
  unfold gsub at hg
  split at hg
  · rename_i a1 a2 b
    have hb1 : b ≤ 1 := Nat.le_of_ble_eq_true hg
    obtain ⟨v1, r1, h1, hr1, e1⟩ := denL_cons.1 hd
    obtain ⟨v2, r2, h2, hr2, rfl⟩ := denL_cons.1 hr1
    obtain ⟨v3, r3, h3, hr3, rfl⟩ := denL_cons.1 hr2
    rw [denL_nil.1 hr3] at e1
    obtain ⟨l3, rfl⟩ := den_u64_inv h3
    match ins, e1 with
    | [x, y, z], e1 =>
      simp only [vals, List.map_cons, List.map_nil, List.cons.injEq, Value.int.injEq, true_and, and_true] at e1
      obtain ⟨rfl, rfl, e3⟩ := e1
      have e3 : z = b := by omega
      subst e3
      refine ⟨[(x + 18446744073709551616 - y - z) % 18446744073709551616, if x < y + z then 1 else 0], rfl, fun q hq => ?_, ⟨x, y, z, rfl, rfl⟩, ?_⟩
      · simp only [List.mem_cons, List.not_mem_nil, or_false] at hq
        rcases hq with rfl | rfl
        · exact Nat.mod_lt _ (by decide)
        · split <;> decide
      · rw [run_callFunc_extern hf hname hb hn he]
        rw [show (vals .u64 [x, y, z]).toArray = #[.int .u64 (x : Int), .int .u64 (y : Int), .int .u64 (z : Int)] from rfl, run_sub64 x y z hb1]
        exact ⟨rfl, .refl _ _⟩
    | [], e1 => simp [vals] at e1
    | [_], e1 => simp [vals] at e1
    | [_, _], e1 => simp [vals] at e1
    | _ :: _ :: _ :: _ :: _, e1 => simp [vals] at e1
  · cases hg
end
end Sha
end Go.Sy
