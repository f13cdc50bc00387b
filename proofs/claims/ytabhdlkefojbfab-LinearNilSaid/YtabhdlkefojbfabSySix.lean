import Derived.Test.YtabhdlkefojbfabSyFive
import Derived.ProofKit
import Derived.WideKeyArgs
import Derived.OpenShut
import Derived.ChangeArms
import Derived.MakeChecks
import Derived.Shelf.Spec.BitsCarry
/-! A loop's head: what always holds. -/
namespace Go.Sy
def valOf : Option IntKind → Int → Value
  | none, z => .bool (decide (z ≠ 0))
  | some k, z => .int k z
def okKd : Option IntKind → Int → Prop
  | none, _ => True
  | some k, z => (Lit.int k z).wf = true
def KR : List (Option IntKind) → List Int → List Value → Prop
  | [], [], [] => True
  | k :: ks, z :: zs, x :: xs => x = valOf k z ∧ okKd k z ∧ KR ks zs xs
  | _, _, _ => False
theorem KR.len : ∀ {ks : List (Option IntKind)} {zs : List Int} {xs : List Value}, KR ks zs xs → ks.length = zs.length ∧ xs.length = zs.length
  | [], [], [], _ => ⟨rfl, rfl⟩
  | _ :: _, _ :: _, _ :: _, h => by have := h.2.2.len; simp [this.1, this.2]
  | [], [], _ :: _, h => h.elim
  | [], _ :: _, _, h => h.elim
  | _ :: _, [], _, h => h.elim
  | _ :: _, _ :: _, [], h => h.elim
theorem evL_append {ρ : Va} : ∀ {a b : List T} {da db : List D}, evL ρ a = some da → evL ρ b = some db → evL ρ (a ++ b) = some (da ++ db)
  | [], b, da, db, h, h' => by cases h; exact h'
  | t :: a, b, da, db, h, h' => by
    simp only [evL] at h
    cases ht : t.ev ρ with
    | none => simp [ht] at h
    | some d =>
      cases ha : evL ρ a with
      | none => simp [ht, ha] at h
      | some da' =>
        simp only [ht, ha] at h
        cases h
        show (match t.ev ρ, evL ρ (a ++ b) with | some d, some l => some (d :: l) | _, _ => none) = _
        rw [ht, evL_append ha h']; rfl
theorem evL_split {ρ : Va} : ∀ {a b : List T} {d : List D}, evL ρ (a ++ b) = some d → ∃ da db, evL ρ a = some da ∧ evL ρ b = some db ∧ d = da ++ db
  | [], b, d, h => ⟨[], d, rfl, h, rfl⟩
  | t :: a, b, d, h => by
    have h : (match t.ev ρ, evL ρ (a ++ b) with | some d, some l => some (d :: l) | _, _ => none) = some d := h
    cases ht : t.ev ρ with
    | none => rw [ht] at h; cases h
    | some x =>
      cases hl : evL ρ (a ++ b) with
      | none => rw [ht, hl] at h; cases h
      | some l =>
        rw [ht, hl] at h; cases h
        obtain ⟨da, db, h1, h2, rfl⟩ := evL_split hl
        exact ⟨x :: da, db, by simp [evL, ht, h1], h2, rfl⟩
theorem evL_mono {ρ ρ' : Va} (h : ρ.Le ρ') : ∀ {l : List T} {d : List D}, evL ρ l = some d → evL ρ' l = some d
  | [], d, hd => hd
  | t :: l, d, hd => by
    simp only [evL] at hd ⊢
    cases ht : t.ev ρ with
    | none => simp [ht] at hd
    | some x =>
      cases hl : evL ρ l with
      | none => simp [ht, hl] at hd
      | some xs => rw [ev_mono h ht, evL_mono h hl]; simpa [ht, hl] using hd

section
variable {X : Tabs} {K : Nat → Prop} {w0 : World} {E : Env} {st : St} {w : World} {Θ : Pred} {R : List Back} {tm : Tm} {rec : Rec} {N : Nat} {ds : List Nat} {a : Act} {k : Res → VC} {rd r : Option Nat} {fid : FuncId}

theorem kdsK_inv : ∀ {l : List AV} {st : St} {k : List (Option IntKind) → List T → St → VC} {xs : List Value}, (kdsK l st k).holds Θ E.va R → FOK E.va st.facts → denL E l = some xs →
    ∃ ks ts zs f, FOK E.va f ∧ (k ks ts (st.withF f)).holds Θ E.va R ∧ evL E.va ts = some (zs.map .i) ∧ ts.length = zs.length ∧ KR ks zs xs
  | [], st, k, xs, h, hf, hx => by
    rw [denL_nil.1 hx]
    exact ⟨[], [], [], st.facts, hf, by rw [withF_self]; exact h, rfl, rfl, trivial⟩
  | v :: l, st, k, xs, h, hf, hx => by
    obtain ⟨x, xs', hx1, hx2, rfl⟩ := denL_cons.1 hx
    cases v with
    | int kd u =>
      obtain ⟨ks, ts, zs, f, h1, h2, h3, h4, h5⟩ := kdsK_inv (l := l) (st := st) h hf hx2
      obtain ⟨hu, rfl⟩ := den_int hx1
      exact ⟨_, _, sgn kd u :: zs, f, h1, h2, by simp [evL, T.ev, h3], by simp [h4], rfl, sgn_wf kd hu, h5⟩
    | sym kd t =>
      obtain ⟨ks, ts, zs, f, h1, h2, h3, h4, h5⟩ := kdsK_inv (l := l) (st := st) h hf hx2
      obtain ⟨n, hn, hw, rfl⟩ := den_sym hx1
      exact ⟨_, _, n :: zs, f, h1, h2, by simp [evL, hn, h3], by simp [h4], rfl, hw, h5⟩
    | bool b =>
      obtain ⟨ks, ts, zs, f, h1, h2, h3, h4, h5⟩ := kdsK_inv (l := l) (st := st) h hf hx2
      cases hx1
      refine ⟨_, _, Int.ofNat (bif_ b 1 0) :: zs, f, h1, h2, by simp [evL, T.ev, h3], by simp [h4], ?_, trivial, h5⟩
      cases b <;> rfl
    | cnd c =>
      obtain ⟨b, hc, rfl⟩ := den_cnd hx1
      have h : (brK c st (fun st => kdsK l st fun ks ts st => k (none :: ks) (.z (.ofNat 1) :: ts) st) (fun st => kdsK l st fun ks ts st => k (none :: ks) (.z (.ofNat 0) :: ts) st)).holds Θ E.va R := h
      obtain ⟨f0, hf0, h⟩ := brK_inv h hf hc
      rcases h with ⟨rfl, h⟩ | ⟨rfl, h⟩
      · obtain ⟨ks, ts, zs, f, h1, h2, h3, h4, h5⟩ := kdsK_inv (l := l) h (by show FOK E.va (st.withF f0).x.facts; have := withF_facts st f0; unfold St.facts at this; rw [this]; exact hf0) hx2
        rw [withF_withF] at h2
        exact ⟨_, _, 1 :: zs, f, h1, h2, by simp [evL, T.ev, h3], by simp [h4], rfl, trivial, h5⟩
      · obtain ⟨ks, ts, zs, f, h1, h2, h3, h4, h5⟩ := kdsK_inv (l := l) h (by show FOK E.va (st.withF f0).x.facts; have := withF_facts st f0; unfold St.facts at this; rw [this]; exact hf0) hx2
        rw [withF_withF] at h2
        exact ⟨_, _, 0 :: zs, f, h1, h2, by simp [evL, T.ev, h3], by simp [h4], rfl, trivial, h5⟩
    | _ => exact h.elim

theorem newVs_den {E' : Env} : ∀ {ks : List (Option IntKind)} {gz : List Int} {xs : List Value} {i : Nat}, KR ks gz xs → (∀ j n, gz[j]? = some n → E'.z[i + j]? = some n) → denL E' (newVs i ks) = some xs
  | [], [], [], i, _, _ => rfl
  | k :: ks, z :: zs, x :: xs, i, ⟨h1, h2, h3⟩, hz => by
    have hz0 : E'.z[i]? = some z := by have := hz 0 z rfl; simpa using this
    refine denL_cons.2 ⟨x, xs, ?_, newVs_den (i := i + 1) h3 fun j n hj => by rw [show i + 1 + j = i + (j + 1) by omega]; exact hz (j + 1) n hj, rfl⟩
    have he : (T.zv i).ev E'.va = some (.i z) := by simp [T.ev, Env.va, hz0]
    cases k with
    | none =>
      rw [h1]
      show (AV.cnd (.cmp .neq (.zv i) (.z (.ofNat 0)))).den E' = _
      rw [den_cnd_of (b := decide (z ≠ 0))]
      · rfl
      · rw [cmp_ev he rfl]; rfl
    | some kd =>
      rw [h1]
      exact den_sym_of he h2
  | [], [], _ :: _, _, h, _ => h.elim
  | [], _ :: _, _, _, h, _ => h.elim
  | _ :: _, [], _, _, h, _ => h.elim
  | _ :: _, _ :: _, [], _, h, _ => h.elim
theorem rngs_ok {ρ : Va} : ∀ {ks : List (Option IntKind)} {gz : List Int} {xs : List Value} {i : Nat}, KR ks gz xs → (∀ j n, gz[j]? = some n → ρ.z[i + j]? = some n) → FOK ρ (rngs i ks)
  | [], [], [], i, _, _ => fun c hc => by cases hc
  | k :: ks, z :: zs, x :: xs, i, ⟨h1, h2, h3⟩, hz => by
    have hz0 : ρ.z[i]? = some z := by have := hz 0 z rfl; simpa using this
    have ih := rngs_ok (ρ := ρ) (i := i + 1) h3 fun j n hj => by rw [show i + 1 + j = i + (j + 1) by omega]; exact hz (j + 1) n hj
    have he : (T.zv i).ev ρ = some (.i z) := by simp [T.ev, hz0]
    cases k with
    | none => exact ih
    | some kd =>
      have := wf_range h2
      have e1 : (T.cmp .geq (.zv i) (.z (minOf kd))).ev ρ = some (.b true) := by rw [cmp_ev he rfl]; simp [zcm, this.1]
      have e2 : (T.cmp .leq (.zv i) (.z (maxOf kd))).ev ρ = some (.b true) := by rw [cmp_ev he rfl]; simp [zcm, this.2]
      exact (ih.cons e2).cons e1
  | [], [], _ :: _, _, h, _ => h.elim
  | [], _ :: _, _, _, h, _ => h.elim
  | _ :: _, [], _, _, h, _ => h.elim
  | _ :: _, _ :: _, [], _, h, _ => h.elim
theorem zvs_ev {ρ : Va} : ∀ {gz : List Int} {i : Nat}, (∀ j n, gz[j]? = some n → ρ.z[i + j]? = some n) → evL ρ (zvs i gz.length) = some (gz.map .i)
  | [], i, _ => rfl
  | z :: zs, i, hz => by
    have hz0 : ρ.z[i]? = some z := by have := hz 0 z rfl; simpa using this
    have ih := zvs_ev (ρ := ρ) (gz := zs) (i := i + 1) fun j n hj => by rw [show i + 1 + j = i + (j + 1) by omega]; exact hz (j + 1) n hj
    show (match (T.zv i).ev ρ, evL ρ (zvs (i + 1) zs.length) with | some d, some l => some (d :: l) | _, _ => none) = _
    rw [ih]
    simp [T.ev, hz0]
theorem deads_mem : ∀ {l : List Nat} {i t : Nat} {v : AV}, (t, v) ∈ deads i l → ∃ j : Nat, l[j]? = some t ∧ v = .dead (i + j)
  | [], i, t, v, h => by cases h
  | u :: l, i, t, v, h => by
    have h : (t, v) ∈ (u, AV.dead i) :: deads (i + 1) l := h
    rcases List.mem_cons.1 h with h | h
    · cases h; exact ⟨0, rfl, rfl⟩
    · obtain ⟨j, h1, h2⟩ := deads_mem h
      exact ⟨j + 1, by simpa using h1, by rw [h2]; congr 1; omega⟩
/-- What has a meaning in an elder state has it in a later one, and in any that says as much as the elder one. -/
theorem den_det {E E2 E1 : Env} (h2 : E.Le E2) (h1 : E.Le E1) {v : AV} {x y : Value} (hx : v.den E = some x) (hy : v.den E2 = some y) : v.den E1 = some y := by
  have := den_mono h2 v hx
  rw [this] at hy; cases hy
  exact den_mono h1 v hx
theorem ents_det {E E2 E1 : Env} (h2 : E.Le E2) (h1 : E.Le E1) : ∀ {es : List (AV × AV × Nat)} {ms ms2 : List MapEntry}, EntsRel E es ms → EntsRel E2 es ms2 → EntsRel E1 es ms2
  | [], [], [], _, _ => trivial
  | _ :: _, _ :: _, _ :: _, ⟨⟨a1, a2, _⟩, a4⟩, ⟨⟨b1, b2, b3⟩, b4⟩ => ⟨⟨den_det h2 h1 a1 b1, den_det h2 h1 a2 b2, b3⟩, ents_det h2 h1 a4 b4⟩
  | [], [], _ :: _, _, h => h.elim
  | [], _ :: _, _, h, _ => h.elim
  | _ :: _, [], _, h, _ => h.elim
  | _ :: _, _ :: _, [], _, h => h.elim
theorem m_det {E E2 E1 : Env} (h2 : E.Le E2) (h1 : E.Le E1) {k : Nat} {p q : Nat × Nat} (hx : E.m[k]? = some (some p)) (hy : E2.m[k]? = some (some q)) : E1.m[k]? = some (some q) := by
  rw [h2.m _ _ hx] at hy; cases hy; exact h1.m _ _ hx
theorem slots_det {E E2 E1 : Env} (h2 : E.Le E2) (h1 : E.Le E1) {tm : Tm} {t1 t2 : Array Value} (a : SlotRel E tm t1) (b : SlotRel E2 tm t2) : SlotRel E1 tm t2 :=
  ⟨fun t => by
    obtain ⟨x, e1, _⟩ := a.slots t
    obtain ⟨y, e2, e3⟩ := b.slots t
    exact ⟨y, den_det h2 h1 e1 e2, e3⟩⟩
theorem ob_det {E E2 E1 : Env} (h2 : E.Le E2) (h1 : E.Le E1) {o : Ob} {ob ob2 : Obj} (ho : ObRel X E o ob) (ho2 : ObRel X E2 o ob2) : ObRel X E1 o ob2 := by
  cases o with
  | map es c =>
    cases ob <;> simp only [ObRel] at ho
    cases ob2 <;> simp only [ObRel] at ho2 ⊢
    exact ⟨ho2.1, ents_det h2 h1 ho.2 ho2.2⟩
  | strIt n s p => cases ob2 <;> exact ho2
  | mapIt m c l d =>
    cases ob <;> simp only [ObRel] at ho
    cases ob2 <;> simp only [ObRel] at ho2 ⊢
    rename_i r1 _ _ _ r2 _ _ _
    obtain ⟨a1, _⟩ := ho
    obtain ⟨b1, b2⟩ := ho2
    refine ⟨?_, b2⟩
    cases m <;> cases r1 <;> cases r2 <;> first | trivial | exact a1.elim | exact b1.elim | exact m_det h2 h1 a1 b1
  | loop s p f tm ps x y d =>
    cases ob <;> simp only [ObRel] at ho
    cases ob2 <;> simp only [ObRel] at ho2 ⊢
    obtain ⟨a1, a2, a4, a5, a6, a7, a8, a9, a10, a11⟩ := ho
    obtain ⟨b1, b2, b4, b5, b6, b7, b8, b9, b10, b11⟩ := ho2
    exact ⟨b1, b2, slots_det h2 h1 a4 b4, b5, b6, b7, b8, b9, b10, m_det h2 h1 a11 b11⟩
  | dfr b => cases ob2 <;> first | exact ho2 | (cases b <;> exact ho2)
end
end Go.Sy
/-! A loop's head: what a round changes is forgotten. -/
namespace Go.Sy
section
variable {X : Tabs} {K : Nat → Prop} {w0 : World} {E : Env} {st : St} {w : World} {Θ : Pred} {R : List Back} {tm : Tm} {rec : Rec} {N : Nat} {ds : List Nat} {a : Act} {k : Res → VC} {rd r : Option Nat} {fid : FuncId}

def Env.hav (E E2 : Env) (n nc : Nat) (gz : List Int) (od : List Value) : Env := ⟨E2.m.take n, E2.caps.take nc, E.z ++ gz, E.a, E.o ++ od⟩
noncomputable def St.hav (st : St) (uc : List ((Nat × Nat) × AV)) (ks : List (Option IntKind)) (nz' no' : Nat) : St :=
  ⟨st.n, st.nc, cellsSetF uc st.heap, st.live, ⟨st.x.objs, st.x.sh, rngs st.x.nz ks ++ st.x.facts, nz', st.x.na, no', st.x.nm⟩⟩
theorem dfr_det {E E2 E1 : Env} (h2 : E.Le E2) (h1 : E.Le E1) : ∀ {l : List Nat} {r r2 : List Deferred}, DfRel E l r → DfRel E2 l r2 → DfRel E1 l r2
  | [], _, [], _, _ => trivial
  | _ :: _, _ :: _, _ :: _, ⟨⟨_, a1, _⟩, a2⟩, ⟨⟨id2, b1, b2⟩, b3⟩ => ⟨⟨id2, m_det h2 h1 a1 b1, b2⟩, dfr_det h2 h1 a2 b3⟩
  | [], _, _ :: _, _, h => h.elim
  | _ :: _, [], _, h, _ => h.elim
  | _ :: _, _ :: _, [], _, h => h.elim

theorem rehavoc (hS : StRel X K w0 E st w) (hT : TmRel E tm ds a N) {ls : List (Nat × Nat)} (hpl : ∀ c ∈ ls, ∃ p, E.m[c.1]? = some (some p))
    {E2 : Env} {st2 : St} {w2 : World} {tm2 : Tm} {a2 : Act} (hE : E.Le E2) (hS2 : StRel X K w0 E2 st2 w2) (hT2 : TmRel E2 tm2 ds a2 N) (hH : HP E E2 st st2)
    {slots dead : List Nat} {cs2 : List AV} {xs2 : List Value} {ks : List (Option IntKind)} {gz : List Int} (hcs2 : readLs st2 ls = some cs2) (hks : KR ks gz xs2) (hxs2 : denL E2 (slots.map (fun t => slot tm2 (pth t)) ++ cs2) = some xs2)
    {ups : List (Nat × AV)} {uc : List ((Nat × Nat) × AV)} (hups : ups = slots.zip (newVs st.x.nz ks) ++ deads st.x.no dead) (huc : uc = ls.zip ((newVs st.x.nz ks).drop slots.length))
    (htm : ∀ t, slot (setAllF ups tm) (pth t) = slot (setAllF ups tm2) (pth t)) (hheap : ∀ j, j < st.n → (cellsSetF uc st.heap).get j = (cellsSetF uc st2.heap).get j)
    (hobjs : ∀ j, j < st.n → st.x.objs.get j = st2.x.objs.get j) (hlive : ∀ j, j < st.n → st.live.get j = st2.live.get j) :
    E.Le (E.hav E2 st.n st.nc gz (dead.map fun t => a2.tmps.getD t undef)) ∧ StRel X K w0 (E.hav E2 st.n st.nc gz (dead.map fun t => a2.tmps.getD t undef)) (st.hav uc ks (st.x.nz + gz.length) (st.x.no + dead.length)) w2 ∧
      TmRel (E.hav E2 st.n st.nc gz (dead.map fun t => a2.tmps.getD t undef)) (setAllF ups tm) ds a2 N ∧ HP E (E.hav E2 st.n st.nc gz (dead.map fun t => a2.tmps.getD t undef)) st (st.hav uc ks (st.x.nz + gz.length) (st.x.no + dead.length)) := by
  generalize hod : (dead.map fun t => a2.tmps.getD t undef) = od
  have hodl : od.length = dead.length := by rw [← hod]; simp
  obtain ⟨E1, hE1⟩ : ∃ E1, E1 = E.hav E2 st.n st.nc gz od := ⟨_, rfl⟩
  have hm1 : ∀ j, j < st.n → E1.m[j]? = E2.m[j]? := fun j hj => by rw [hE1]; show (E2.m.take st.n)[j]? = _; rw [List.getElem?_take, if_pos hj]
  have hm1' : ∀ (j : Nat) q, E1.m[j]? = some q → j < st.n ∧ E2.m[j]? = some q := fun j q hq => by
    have hj : j < st.n := by
      rw [hE1] at hq
      have hq : (E2.m.take st.n)[j]? = some q := hq
      rw [List.getElem?_take] at hq
      by_cases c : j < st.n
      · exact c
      · rw [if_neg c] at hq; cases hq
    exact ⟨hj, by rw [← hm1 j hj]; exact hq⟩
  have hlt : ∀ {j : Nat} {q}, E.m[j]? = some q → j < st.n := fun h => by rw [← hS.n_eq]; exact (List.getElem?_eq_some_iff.1 h).1
  have hle : E.Le E1 := by
    refine ⟨fun j p h => by rw [hm1 j (hlt h)]; exact hE.m _ _ h, fun j c h => ?_, ⟨fun i n h => ?_, fun i l h => by rw [hE1]; exact h⟩, fun i v h => ?_, fun j h => ⟨none, by rw [hm1 j (hlt h)]; exact (hH j h).1, fun p e => by cases e⟩⟩
    · rw [hE1]
      show (E2.caps.take st.nc)[j]? = _
      rw [List.getElem?_take, if_pos (by rw [← hS.c_eq]; exact (List.getElem?_eq_some_iff.1 h).1)]; exact hE.caps _ _ h
    · rw [hE1]
      have h : E.z[i]? = some n := h
      show (E.z ++ gz)[i]? = _
      rw [List.getElem?_append_left (List.getElem?_eq_some_iff.1 h).1]; exact h
    · rw [hE1]
      show (E.o ++ od)[i]? = _
      rw [List.getElem?_append_left (List.getElem?_eq_some_iff.1 h).1]; exact h
  have hz : ∀ (j : Nat) (n : Int), gz[j]? = some n → E1.z[st.x.nz + j]? = some n := fun j n hj => by
    rw [hE1]
    show (E.z ++ gz)[st.x.nz + j]? = _
    rw [← hS.z_eq, List.getElem?_append_right (by omega)]
    rw [show E.z.length + j - E.z.length = j by omega]; exact hj
  have hnew := newVs_den (E' := E1) (i := st.x.nz) hks hz
  have hkl := hks.len
  have hnl : (newVs st.x.nz ks).length = gz.length := by rw [← denL_length hnew]; exact hkl.2
  obtain ⟨hcl, hcr⟩ := readLs_spec hcs2
  have hxl := denL_length hxs2
  rw [List.length_append, List.length_map] at hxl
  -- the cells' new words
  have cellv : ∀ c v, (c, v) ∈ uc → ∃ j : Nat, ls[j]? = some c ∧ (newVs st.x.nz ks)[slots.length + j]? = some v ∧ ∃ u x b p, cs2[j]? = some u ∧ st2.heap.get c.1 = some b ∧ b.cell c.2 = some u ∧ u.den E2 = some x ∧ v.den E1 = some x ∧ E.m[c.1]? = some (some p) := by
    intro c v hc
    rw [huc] at hc
    obtain ⟨j, hj1, hj2⟩ := zip_mem hc
    rw [List.getElem?_drop] at hj2
    have hjl : j < cs2.length := by have := (List.getElem?_eq_some_iff.1 hj1).1; omega
    obtain ⟨b, hb, hv⟩ := hcr j c cs2[j] hj1 (by simp [hjl])
    obtain ⟨x, hx1, hx2⟩ := denL_get hnew hj2
    obtain ⟨y, hy1, hy2⟩ := denL_get hxs2 (i := slots.length + j) (v := cs2[j]) (by rw [List.getElem?_append_right (by simp)]; simp [hjl])
    rw [hx2] at hy2; cases hy2
    obtain ⟨p, hp⟩ := hpl c (List.mem_of_getElem? hj1)
    exact ⟨j, hj1, hj2, cs2[j], x, b, p, by simp [hjl], hb, hv, hy1, hx1, hp⟩
  -- a block, before and now
  have blk : ∀ j b', (cellsSetF uc st.heap).get j = some b' → ∃ b b2 t, st.heap.get j = some b ∧ st2.heap.get j = some b2 ∧ b' = { b with cells := t } ∧ b' = { b2 with cells := t } ∧
      (∀ i, (∃ v, ((j, i), v) ∈ uc ∧ t.get i = some v) ∨ ((∀ v, ((j, i), v) ∉ uc) ∧ t.get i = b.cells.get i ∧ t.get i = b2.cells.get i)) ∧ ((∀ i v, ((j, i), v) ∉ uc) → t = b.cells) := by
    intro j b' hb'
    obtain ⟨g1, g2⟩ := cellsSetF_get uc st.heap j
    obtain ⟨f1, f2⟩ := cellsSetF_get uc st2.heap j
    cases hb : st.heap.get j with
    | none => rw [g1 hb] at hb'; cases hb'
    | some b =>
      have hjn := (hS.lt j b hb).1
      obtain ⟨t, h1, h2, h3⟩ := g2 b hb
      rw [h1] at hb'; cases hb'
      have hb2' := hheap j hjn
      rw [h1] at hb2'
      cases hb2 : st2.heap.get j with
      | none => rw [f1 hb2] at hb2'; cases hb2'
      | some b2 =>
        obtain ⟨t2, e1, e2, e3⟩ := f2 b2 hb2
        rw [e1] at hb2'
        have hbb := Option.some.inj hb2'
        have htt : t = t2 := by injection hbb
        subst htt
        refine ⟨b, b2, t, rfl, rfl, rfl, hbb, fun i => ?_, h3⟩
        rcases h2 i with ⟨v, q1, q2⟩ | ⟨q1, q2⟩
        · exact .inl ⟨v, q1, q2⟩
        · refine .inr ⟨q1, q2, ?_⟩
          rcases e2 i with ⟨v, r1, r2⟩ | ⟨r1, r2⟩
          · exact absurd r1 (q1 v)
          · exact r2
  have placed : ∀ (j : Nat) (p : Nat × Nat), E1.m[j]? = some (some p) → ∃ q, E.m[j]? = some (some q) := by
    intro j p hp
    obtain ⟨hj, h2⟩ := hm1' j _ hp
    cases hq : E.m[j]? with
    | none => rw [List.getElem?_eq_none_iff, hS.n_eq] at hq; omega
    | some q =>
      cases q with
      | none => rw [(hH j hq).1] at h2; cases h2
      | some q => exact ⟨q, rfl⟩
  have fam : ∀ b (hb : b.fam < st.n) (j : Nat), famOf (st.hav uc ks (st.x.nz + gz.length) (st.x.no + dead.length)) b j = famOf st2 b j := fun b hb j => by
    unfold famOf
    show (Option.rec [j] (fun l => l) (st.live.get b.fam) : List Nat) = _
    rw [hlive _ hb]
  have hnn : st.n ≤ st2.n := by
    rw [← hS.n_eq, ← hS2.n_eq]
    exact hE.len
  have hncc : st.nc ≤ st2.nc := by
    rw [← hS.c_eq, ← hS2.c_eq]
    rcases Nat.eq_zero_or_pos E.caps.length with e | e
    · omega
    · have hlt : E.caps.length - 1 < E.caps.length := by omega
      have := (List.getElem?_eq_some_iff.1 (hE.caps _ _ (List.getElem?_eq_getElem hlt))).1; omega
  rw [← hE1]
  refine ⟨hle, ?_, ?_, ?_⟩
  · refine ⟨?_, ?_, ?_, ?_, ?_, hS2.klt, hS2.kept, fun j p hp => hS2.ids j p (hm1' j _ hp).2, fun j b' hb' => ?_, fun j b' hb' => ?_, fun k1 k2 b1 b2 id1 sh1 id2 sh2 e1 e2 m1 m2 hf => ?_, fun f l hl => hS.livelt f l hl, fun j b' hb' j2 b2' hb2' hf => ?_, fun j o hj => ?_, fun k1 k2 o1 o2 p h1 h2 m1 m2 => ?_, fun j o hj => ?_, ?_, fun j b' p hb' hp => ?_, fun f l hl => ?_, hS.ext.mono hle⟩
    · rw [hE1]; show (E2.m.take st.n).length = st.n
      rw [List.length_take, hS2.n_eq]; omega
    · rw [hE1]; show (E2.caps.take st.nc).length = st.nc
      rw [List.length_take, hS2.c_eq]; omega
    · rw [hE1]; show (E.z ++ gz).length = st.x.nz + gz.length
      rw [List.length_append, hS.z_eq]
    · rw [hE1]; exact hS.a_eq
    · rw [hE1]; show (E.o ++ od).length = st.x.no + dead.length
      rw [List.length_append, hS.o_eq, hodl]
    · obtain ⟨b, b2, t, h1, h2, rfl, _⟩ := blk j b' hb'
      exact hS.lt j b h1
    · obtain ⟨b, b2, t, h1, h2, e1, e2, h3, h4⟩ := blk j b' hb'
      have hjn := (hS.lt j b h1).1
      rcases hS.blks j b h1 with h | ⟨id, sh, cs, el, fr, g1, g2, g3⟩
      · left
        have ht : t = b.cells := h4 fun i v hv => by
          obtain ⟨_, _, _, _, _, _, p, _, _, _, _, _, q⟩ := cellv _ _ hv
          rw [h.1] at q; cases q
        subst ht
        rw [e1]
        exact ⟨by rw [hm1 j hjn]; exact (hH j h.1).1, h.2.1, fun i v hv => (h.2.2 i v hv).mono hle⟩
      · right
        rcases hS2.blks j b2 h2 with h | ⟨id', sh', cs', el', fr', g1', g2', g3'⟩
        · rw [hE.m _ _ g1] at h; cases h.1
        · rw [hE.m _ _ g1] at g1'; cases g1'
          have hbb : ({ b with cells := t } : Blk) = { b2 with cells := t } := by rw [← e1, e2]
          have hsz : b.sz = b2.sz := by injection hbb
          have hzz : b.z = b2.z := by injection hbb
          have hzn : b.zn = b2.zn := by injection hbb
          have hcv : b.cv = b2.cv := by injection hbb
          have hes : b.es = b2.es := by injection hbb
          refine ⟨id, sh, cs', el', fr', by rw [hm1 j hjn]; exact hE.m _ _ g1, g2', ?_⟩
          rw [e1]
          refine ⟨g3'.free, by show b.sz + sh ≤ _; rw [hsz]; exact g3'.room, fun i v hv => ?_, fun i hi => ?_, fun i v hv => ?_⟩
          · have hv : t.get i = some v := hv
            show i < b.sz
            rcases h3 i with ⟨u, q1, q2⟩ | ⟨q1, q2, q3⟩
            · obtain ⟨_, _, _, u', x, bb, p, _, d1, d2, d3, d4, d5⟩ := cellv _ _ q1
              simp only at d1 d2
              rw [h2] at d1; cases d1
              rw [cell_eq] at d2
              cases hc : b2.cells.get i with
              | some y => rw [hsz]; exact g3'.bnd i y hc
              | none =>
                rw [hc] at d2
                simp only at d2
                by_cases c : i < b2.sz
                · rw [hsz]; exact c
                · rw [if_neg c] at d2; cases d2
            · rw [q2] at hv; exact g3.bnd i v hv
          · have hi : b.cv = i + 1 := hi
            obtain ⟨c, c1, c2, c3⟩ := g3.cap i hi
            obtain ⟨c', c1', c2', c3'⟩ := g3'.cap i (by rw [← hcv]; exact hi)
            rw [hE.caps _ _ c1] at c1'; cases c1'
            exact ⟨c, hle.caps _ _ c1, by show c * b.es + sh ≤ _; rw [hes]; exact c2', c3⟩
          · rw [cell_eq] at hv
            have hv : (match t.get i with | some v => some v | none => if i < b.sz then (match b.zn with | 0 => none | j + 1 => b.z[i % (j + 1)]?) else none) = some v := hv
            rcases h3 i with ⟨u, q1, q2⟩ | ⟨q1, q2, q3⟩
            · rw [q2] at hv; cases hv
              obtain ⟨_, _, _, u', x, bb, p, _, d1, d2, d3, d4, d5⟩ := cellv _ _ q1
              simp only at d1 d2 d4
              rw [h2] at d1; cases d1
              obtain ⟨y, f1, f2⟩ := g3'.cells i u' d2
              rw [d3] at f1; cases f1
              exact ⟨x, d4, f2⟩
            · have hvb : b.cell i = some v := by rw [cell_eq, ← q2]; exact hv
              have hvb2 : b2.cell i = some v := by rw [cell_eq, ← q3, ← hsz, ← hzz, ← hzn]; exact hv
              obtain ⟨x, f1, _⟩ := g3.cells i v hvb
              obtain ⟨y, f3, f4⟩ := g3'.cells i v hvb2
              exact ⟨y, den_det hE hle f1 f3, f4⟩
    · obtain ⟨c1, d1, t1, f1, f2, rfl, f4, _⟩ := blk k1 b1 e1
      obtain ⟨c2, d2, t2, f5, f6, rfl, f8, _⟩ := blk k2 b2 e2
      have hf1 : c1.fam = d1.fam := by injection f4
      have hf2 : c2.fam = d2.fam := by injection f8
      exact hS2.fams k1 k2 d1 d2 id1 sh1 id2 sh2 f2 f6 (hm1' _ _ m1).2 (hm1' _ _ m2).2 (by rw [← hf1, ← hf2]; exact hf)
    · obtain ⟨c1, d1, t1, f1, f2, rfl, f4, _⟩ := blk j b' hb'
      obtain ⟨c2, d2, t2, f5, f6, rfl, f8, _⟩ := blk j2 b2' hb2'
      exact hS.lives j c1 f1 j2 c2 f5 hf
    · have hj : st.x.objs.get j = some o := hj
      obtain ⟨h1, h2⟩ := hS.objs j o hj
      refine ⟨h1, ?_⟩
      rcases h2 with h2 | ⟨id, ob, g1, g2, g3⟩
      · exact .inl (by rw [hm1 j h1]; exact (hH j h2).1)
      · right
        obtain ⟨_, h3⟩ := hS2.objs j o (by rw [← hobjs j h1]; exact hj)
        rcases h3 with h3 | ⟨id', ob', g1', g2', g3'⟩
        · rw [hE.m _ _ g1] at h3; cases h3
        · exact ⟨id', ob', by rw [hm1 j h1]; exact g1', g2', ob_det hE hle g3 g3'⟩
    · have l1 := (hS.objs k1 o1 h1).1
      have l2 := (hS.objs k2 o2 h2).1
      exact hS2.oinj k1 k2 o1 o2 p (by rw [← hobjs k1 l1]; exact h1) (by rw [← hobjs k2 l2]; exact h2) (hm1' _ _ m1).2 (hm1' _ _ m2).2
    · exact (cellsSetF_get uc st.heap j).1 (hS.apart j o hj)
    · show FOK E1.va (rngs st.x.nz ks ++ st.x.facts)
      intro c hc
      rcases List.mem_append.1 hc with hc | hc
      · exact rngs_ok (ρ := E1.va) hks hz c hc
      · exact hS.facts.mono hle.va c hc
    · obtain ⟨c1, d1, t1, f1, f2, rfl, f4, _⟩ := blk j b' hb'
      obtain ⟨q, hq⟩ := placed j p hp
      obtain ⟨q', hq'⟩ := hS.famh j c1 q f1 hq
      exact ⟨q', hle.m _ _ hq'⟩
    · obtain ⟨⟨q, hq⟩, h2⟩ := hS.liveh f l hl
      exact ⟨⟨q, hle.m _ _ hq⟩, fun j hj => let ⟨q, hq⟩ := h2 j hj; ⟨q, hle.m _ _ hq⟩⟩
  · refine ⟨hT2.size, dfr_det hE hle hT.defers hT2.defers, ⟨fun t => ?_⟩⟩
    rcases setAllF_slot ups tm t with ⟨v, q1, q2⟩ | ⟨q1, q2⟩
    · rw [q2]
      rw [hups] at q1
      rcases List.mem_append.1 q1 with q1 | q1
      · obtain ⟨j, hj1, hj2⟩ := zip_mem q1
        obtain ⟨x, hx1, hx2⟩ := denL_get hnew hj2
        have hjl : j < slots.length := (List.getElem?_eq_some_iff.1 hj1).1
        obtain ⟨y, hy1, hy2⟩ := denL_get hxs2 (i := j) (v := slot tm2 (pth t)) (by rw [List.getElem?_append_left (by simpa using hjl)]; simp [hj1])
        rw [hx2] at hy2; cases hy2
        obtain ⟨z, hz1, hz2⟩ := hT2.rel.slots t
        rw [hy1] at hz1; cases hz1
        exact ⟨x, hx1, hz2⟩
      · obtain ⟨j, hj1, rfl⟩ := deads_mem q1
        refine ⟨a2.tmps.getD t undef, ?_, rfl⟩
        show E1.o[st.x.no + j]? = _
        rw [hE1]
        show (E.o ++ od)[st.x.no + j]? = _
        rw [← hS.o_eq, List.getElem?_append_right (by omega), show E.o.length + j - E.o.length = j by omega, ← hod]
        simp only [List.getElem?_map, hj1, Option.map_some]
    · have h2 := htm t
      rw [q2] at h2
      rcases setAllF_slot ups tm2 t with ⟨v, r1, r2⟩ | ⟨r1, r2⟩
      · exact absurd r1 (q1 v)
      · rw [r2] at h2
        obtain ⟨x, hx1, _⟩ := hT.rel.slots t
        obtain ⟨y, hy1, hy2⟩ := hT2.rel.slots t
        rw [← h2] at hy1
        exact ⟨y, by rw [q2]; exact den_det hE hle hx1 hy1, hy2⟩
  · intro j hj
    refine ⟨by rw [hm1 j (hlt hj)]; exact (hH j hj).1, ?_, rfl, rfl⟩
    show (cellsSetF uc st.heap).get j = st.heap.get j
    obtain ⟨g1, g2⟩ := cellsSetF_get uc st.heap j
    cases hb : st.heap.get j with
    | none => exact g1 hb
    | some b =>
      obtain ⟨t, h1, h2, h3⟩ := g2 b hb
      have ht : t = b.cells := h3 fun i v hv => by
        obtain ⟨_, _, _, _, _, _, p, _, _, _, _, _, q⟩ := cellv _ _ hv
        simp only at q
        rw [hj] at q; cases q
      rw [h1, ht]
end
end Go.Sy
/-! A loop by what always holds; the evaluator's conditions suffice. -/
namespace Go.Sy
theorem trSame_eq {α : Type} {f : α → α → Bool} (hf : ∀ a b, f a b = true → a = b) : ∀ {t u : Tr α}, trSame f t u = true → t = u := by
  intro t
  induction t with
  | nil => intro u h; cases u with
    | nil => rfl
    | node v l r => cases h
  | node v l r ih1 ih2 =>
    intro u h
    cases u with
    | nil => cases v <;> cases h
    | node v' l' r' =>
      cases v <;> cases v' <;> simp only [trSame, Bool.and_eq_true] at h <;> first | (cases h; done) | skip
      · rw [ih1 h.1, ih2 h.2]
      · rw [hf _ _ h.1, ih1 h.2.1, ih2 h.2.2]
theorem sameL_eq {a b : List AV} (h : sameL a b = true) : a = b := same_both.2 a b h
theorem leqL_iff {a b : List Nat} (h : leqL a b = true) : a = b := by rw [leqL_eq, decide_eq_true_eq] at h; exact h
theorem blkSame_eq {a b : Option Blk} (h : blkSame a b = true) : a = b := by
  cases a with
  | none => cases b with
    | none => rfl
    | some b => cases h
  | some a => cases b with
    | none => cases h
    | some b =>
      obtain ⟨sz, t, z, zn, fam, cv, es⟩ := a
      obtain ⟨sz', t', z', zn', fam', cv', es'⟩ := b
      simp only [blkSame, Bool.and_eq_true, beq_iff, decide_eq_true_eq] at h
      obtain ⟨h1, h2, h3, h4, h5, h6, h7⟩ := h
      rw [h1, h2, h3, h4, h5, sameL_eq h6, trSame_eq same_eq h7]
theorem entSame_eq : ∀ {a b : List (AV × AV × Nat)}, entSame a b = true → a = b
  | [], [], _ => rfl
  | (a1, a2, a3) :: l, (b1, b2, b3) :: m, h => by
    simp only [entSame, Bool.and_eq_true, beq_iff, decide_eq_true_eq] at h
    rw [same_eq _ _ h.1, same_eq _ _ h.2.1, h.2.2.1, entSame_eq h.2.2.2]
  | [], _ :: _, h => by cases h
  | _ :: _, [], h => by cases h
theorem obSame_eq {a b : Option Ob} (h : obSame a b = true) : a = b := by
  unfold obSame at h
  split at h
  · rfl
  · simp only [Bool.and_eq_true, beq_iff, decide_eq_true_eq] at h
    rw [entSame_eq h.1, h.2]
  · rw [bbeq_eq, decide_eq_true_eq] at h; rw [h]
  · simp only [Bool.and_eq_true, beq_iff, decide_eq_true_eq] at h
    rw [h.1, leqL_iff h.2.1, h.2.2]
  · simp only [Bool.and_eq_true, beq_iff, decide_eq_true_eq] at h
    rw [sameO_eq h.1, h.2.1, leqL_iff h.2.2.1, h.2.2.2]
  · cases h
theorem livSame_eq {a b : Option (List Nat)} (h : livSame a b = true) : a = b := by
  unfold livSame at h
  split at h
  · rfl
  · rw [leqL_iff h]
  · cases h
theorem allLt_all {f : Nat → Bool} : ∀ {n : Nat}, allLt f n = true → ∀ j, j < n → f j = true
  | 0, _, j, hj => absurd hj (Nat.not_lt_zero _)
  | n + 1, h, j, hj => by
    have h : (f n && allLt f n) = true := h
    rw [Bool.and_eq_true] at h
    by_cases e : j = n
    · rw [e]; exact h.1
    · exact allLt_all h.2 j (by omega)
theorem sameSt_spec {st st2 : St} {h2 : Tr Blk} (h : sameSt st st2 h2 = true) : ∀ j, j < st.n → st.heap.get j = h2.get j ∧ st.x.objs.get j = st2.x.objs.get j ∧ st.live.get j = st2.live.get j := by
  intro j hj
  have := allLt_all h j hj
  simp only [Bool.and_eq_true] at this
  exact ⟨blkSame_eq this.1, obSame_eq this.2.1, livSame_eq this.2.2⟩
theorem sameKs_eq : ∀ {a b : List (Option IntKind)}, sameKs a b = true → a = b
  | [], [], _ => rfl
  | none :: l, none :: m, h => by rw [sameKs_eq (a := l) (b := m) h]
  | some a :: l, some b :: m, h => by
    simp only [sameKs, Bool.and_eq_true] at h
    rw [kbeq_eq h.1, sameKs_eq h.2]
  | [], _ :: _, h => by cases h
  | _ :: _, [], h => by simp [sameKs] at h
  | none :: _, some _ :: _, h => by cases h
  | some _ :: _, none :: _, h => by cases h

section
variable {X : Tabs} {K : Nat → Prop} {w0 : World} {E : Env} {st : St} {w : World} {Θ : Pred} {R : List Back} {tm : Tm} {rec : Rec} {N : Nat} {ds : List Nat} {a : Act} {k : Res → VC} {rd r : Option Nat} {fid : FuncId}

theorem withF_n (st : St) (f : List T) : (st.withF f).n = st.n := by obtain ⟨n, nc, h, l, o, s, g, nz, na, no, lv⟩ := st; rfl
theorem facts_withF {E : Env} {st : St} {f : List T} (h : FOK E.va f) : FOK E.va (st.withF f).x.facts := by
  have := withF_facts st f; unfold St.facts at this; rw [this]; exact h
theorem asC_eq (l : List T) : asC l = l.map Asm.c := mapLL_eq _ _
/-- How far a row's measure is from nought. -/
noncomputable def mval (m : T) (d : List D) : Nat := match m.ev ⟨d.map D.toI, []⟩ with
  | some (.i b) => b.toNat
  | _ => 0
theorem invLoop_ok (hr : RecOK X K w0 Θ rec) {c : BC} {cd : Code} {slots dead : List Nat} {cells : List (Nat × Nat × Nat)} {p : Nat} {args : Tm → St → List T} {meas : T} (hrel : CRel X fid c cd) (hN : okCode N cd = true) (hrd : RdRel E rd r) (hS : StRel X K w0 E st w) (hT : TmRel E tm ds a N)
    (h : (invLoop rec c slots cells dead p args meas tm ds rd st k).holds Θ E.va R) : BodyLoop (FW r) X.P cd (CodeOut X K w0 Θ R E st N k) a w := by
  obtain ⟨ls, hls, h⟩ := vbind_inv h
  obtain ⟨cs, hcs, h⟩ := vbind_inv h
  have hpl := locsOf_placed hT.rel hls
  obtain ⟨cx, hcx⟩ := readLs_den hS hcs hpl
  rw [mapLL_eq, appL_eq] at h
  obtain ⟨ks, ts, zs, f, hf, h, hts, htl, hks⟩ := kdsK_inv h hS.facts (denL_append (slots_den hT.rel slots) hcx)
  rw [forceF_eq] at h
  obtain ⟨st1, hst1⟩ : ∃ st1, st1 = st.withF f := ⟨_, rfl⟩
  rw [← hst1] at h
  have hS1 : StRel X K w0 E st1 w := by rw [hst1]; exact hS.withF hf
  have hH1 : HP E E st st1 := by rw [hst1]; exact hp_withF E st f
  have hcs1 : readLs st1 ls = some cs := by
    have : ∀ l, readLs (st.withF f) l = readLs st l := fun l => by
      induction l with
      | nil => rfl
      | cons c l ih => simp only [readLs, withF_heap, ih]
    rw [hst1, this]; exact hcs
  generalize har : args tm st1 = ar at h
  obtain ⟨n0, nc, hp, lv, o, s, fx, nz, na, no, nm⟩ := st1
  obtain ⟨hm, h⟩ := h
  have hm := hm _ (List.mem_singleton_self _)
  obtain ⟨d0, hd0, hΘ⟩ := hm
  rw [appL_eq] at hd0
  obtain ⟨dz, da, hdz, hda, rfl⟩ := evL_split hd0
  rw [hts] at hdz; cases hdz
  have htlen : lenL ts = zs.length := by rw [lenL_eq, htl]
  have hkz : ks.length = zs.length := hks.len.1
  simp only [natK_eq, setAll_eq, cellsSet_eq, forceF_eq, appL_eq, zipP_eq, dropL_eq, lenL_eq] at h
  rw [htl] at h
  generalize hups : (slots.zip (newVs nz ks) ++ deads no dead) = ups at h
  generalize huc : (ls.zip ((newVs nz ks).drop slots.length)) = uc at h
  -- the claim, by the measure
  have claim : ∀ (M : Nat) (gz : List Int) (E1 : Env) (w1 : World) (a1 : Act), mval meas (gz.map .i ++ da) = M → gz.length = zs.length → Θ p (gz.map .i ++ da) → (∃ xs, KR ks gz xs) → E1.z = E.z ++ gz → E1.a = E.a → E.Le E1 →
      StRel X K w0 E1 ((⟨n0, nc, hp, lv, o, s, fx, nz, na, no, nm⟩ : St).hav uc ks (nz + zs.length) (no + dead.length)) w1 → TmRel E1 (setAllF ups tm) ds a1 N → HP E E1 st ((⟨n0, nc, hp, lv, o, s, fx, nz, na, no, nm⟩ : St).hav uc ks (nz + zs.length) (no + dead.length)) →
      BodyLoop (FW r) X.P cd (CodeOut X K w0 Θ R E st N k) a1 w1 := by
    intro M
    induction M using Nat.strongRecOn with
    | _ M ihM =>
      intro gz E1 w1 a1 hM hgl hΘ1 hKR hz1 ha1 hle1 hSt1 hTm1 hHP1
      have hva : E1.va = E.va.add gz [] := by rw [Va.add_nil]; show (⟨E1.z, E1.a⟩ : Va) = _; rw [hz1, ha1]; rfl
      obtain ⟨gx, hgx⟩ := hKR
      have hzl : E.z.length = nz := hS1.z_eq
      have hzat : ∀ (j : Nat) (n : Int), gz[j]? = some n → E1.z[nz + j]? = some n := fun j n hj => by
        rw [hz1, ← hzl, List.getElem?_append_right (by omega), show E.z.length + j - E.z.length = j by omega]; exact hj
      have hzv : evL E1.va (zvs nz zs.length ++ ar) = some (gz.map .i ++ da) := by
        rw [← hgl]
        exact evL_append (zvs_ev (ρ := E1.va) hzat) (evL_mono hle1.va hda)
      have hb := h gz [] hgl rfl (by
        intro x hx
        rw [← hva]
        rcases List.mem_append.1 hx with hx | hx
        · rw [asC_eq] at hx
          obtain ⟨t, ht, rfl⟩ := List.mem_map.1 hx
          exact rngs_ok (ρ := E1.va) hgx hzat t ht
        · rw [List.mem_singleton.1 hx]
          exact ⟨_, hzv, hΘ1⟩)
      rw [← hva] at hb
      refine bodyLoop_of_wp (wpIn_mono (hr.code (f := fid) hrel hN (hrd.mono hle1) hSt1 hTm1 hb) fun e a' w' hq => ?_)
      obtain ⟨ex, tm2, ds2, st2, E2, R2, rfl, g1, g2, g3, g4, g5, g6⟩ := hq
      cases ex with
      | exit i => exact ⟨.exit i, tm2, ds2, st2, E2, R2, rfl, g1, g2, hle1.trans g3, g4, hHP1.trans g5, g6⟩
      | goto i => exact ⟨.goto i, tm2, ds2, st2, E2, R2, rfl, g1, g2, hle1.trans g3, g4, hHP1.trans g5, g6⟩
      | ret => exact ⟨.ret, tm2, ds2, st2, E2, R2, rfl, g1, g2, hle1.trans g3, g4, hHP1.trans g5, g6⟩
      | normal =>
        obtain ⟨hds, g7⟩ := vif_inv g2
        have hds := leqL_iff hds
        subst hds
        obtain ⟨cs2, hcs2, g8⟩ := vbind_inv g7
        have hpl2 : ∀ c ∈ ls, ∃ q, E2.m[c.1]? = some (some q) := fun c hc => let ⟨q, hq⟩ := hpl c hc; ⟨q, (hle1.trans g3).m _ _ hq⟩
        obtain ⟨xs2, hxs2⟩ := readLs_den g4 hcs2 hpl2
        rw [mapLL_eq, appL_eq] at g8
        have hden2 := denL_append (slots_den g6.rel slots) hxs2
        obtain ⟨ks2, ts2, gz2, f2, hf2, g9, hts2, htl2, hks2⟩ := kdsK_inv g8 g4.facts hden2
        obtain ⟨hkk, g10⟩ := vif_inv g9
        have hkk := sameKs_eq hkk
        subst hkk
        rw [setAll_eq] at g10
        obtain ⟨htr, g11⟩ := vif_inv g10
        have htr := trSame_eq same_eq htr
        rw [cellsSet_eq] at g11
        obtain ⟨hst, g12⟩ := vif_inv g11
        have hst := sameSt_spec hst
        have hgl2 : gz2.length = zs.length := by rw [← hks2.len.1, hkz]
        have m1 := g12 (.p p (appL ts2 ar)) (by simp)
        have m2 := g12 (.lt meas (appL ts2 ar) (zvs nz zs.length ++ ar)) (by simp [appL_eq])
        obtain ⟨d1, hd1, hΘ2⟩ := m1
        rw [appL_eq] at hd1
        have hle2 := hle1.trans g3
        have hev2 : evL E2.va (ts2 ++ ar) = some (gz2.map .i ++ da) := evL_append hts2 (evL_mono hle2.va hda)
        rw [hev2] at hd1; cases hd1
        obtain ⟨dx, dy, av, bv, q1, q2, q3, q4, q5, q6⟩ := m2
        rw [appL_eq, hev2] at q1; cases q1
        rw [evL_mono g3.va hzv] at q2; cases q2
        have hlt : mval meas (gz2.map .i ++ da) < mval meas (gz.map .i ++ da) := by
          unfold mval
          rw [q3, q4]
          simp only
          omega
        have hre := rehavoc (w2 := w') (a2 := a') (slots := slots) (dead := dead) (ups := ups) (uc := uc) hS1 hT hpl hle2 g4 g6 (fun j hj => by
            obtain ⟨e1, e2, e3, e4⟩ := hHP1.trans g5 j hj
            obtain ⟨_, f2, f3, f4⟩ := hH1 j hj
            exact ⟨e1, e2.trans f2.symm, e3.trans f3.symm, e4.trans f4.symm⟩) hcs2 hks2 hden2 hups.symm huc.symm (fun t => by rw [htr])
          (fun j hj => by have := (hst j hj).1; rw [withF_heap] at this; exact this) (fun j hj => by have := (hst j hj).2.1; rw [withF_objs] at this; exact this) (fun j hj => by have := (hst j hj).2.2; rw [withF_live] at this; exact this)
        obtain ⟨r1, r2, r3, r4⟩ := hre
        exact ihM _ (by rw [← hM]; exact hlt) gz2 (E.hav E2 n0 nc gz2 (dead.map fun t => a'.tmps.getD t undef)) w' a' rfl hgl2 hΘ2 ⟨_, hks2⟩ rfl rfl r1 (by rw [hgl2] at r2; exact r2) r3 (by
          rw [hgl2] at r4
          exact hH1.trans r4)
  have hre := rehavoc (w2 := w) (a2 := a) (tm2 := tm) (slots := slots) (dead := dead) (ups := ups) (uc := uc) hS1 hT hpl (.refl E) hS1 hT (.refl E _) hcs1 hks (denL_append (slots_den hT.rel slots) hcx) hups.symm huc.symm (fun _ => rfl) (fun _ _ => rfl) (fun _ _ => rfl) (fun _ _ => rfl)
  obtain ⟨r1, r2, r3, r4⟩ := hre
  refine claim _ zs _ w a rfl rfl hΘ ⟨_, hks⟩ ?_ ?_ r1 r2 r3 (hH1.trans r4) <;> rfl
theorem plainLoop_ok (hr : RecOK X K w0 Θ rec) {c : BC} {an : Option Nat} {cd : Code} (hrel : CRel X fid c cd) (hN : okCode N cd = true) (hrd : RdRel E rd r) (hS : StRel X K w0 E st w) (hT : TmRel E tm ds a N)
    (h : (plainLoop rec an c tm ds rd st k).holds Θ E.va R) : BodyLoop (FW r) X.P cd (CodeOut X K w0 Θ R E st N k) a w := by
  refine bodyLoop_of_wp (wpIn_mono (hr.code (f := fid) hrel hN hrd hS hT h) fun e a' w' hq => ?_)
  obtain ⟨ex, tm', ds', st', E', R', rfl, g1, g2, g3, g4, g5, g6⟩ := hq
  cases ex with
  | normal =>
    have g2 : (rec (.loop an c tm' ds' rd) st' k).holds Θ E'.va R' := g2
    have hb := hr.loop (f := fid) hrel hN (hrd.mono g3) g4 g6 g2
    exact fun b kk cs hro hbf hrm => let ⟨e, a', w', q, rr⟩ := hb b kk cs hro hbf hrm; ⟨e, a', w', q.trans g1 g3 g5, rr⟩
  | exit i => exact ⟨.exit i, tm', ds', st', E', R', rfl, g1, g2, g3, g4, g5, g6⟩
  | goto i => exact ⟨.goto i, tm', ds', st', E', R', rfl, g1, g2, g3, g4, g5, g6⟩
  | ret => exact ⟨.ret, tm', ds', st', E', R', rfl, g1, g2, g3, g4, g5, g6⟩
theorem loop_ok (hr : RecOK X K w0 Θ rec) {c : BC} {an : Option Nat} {cd : Code} (hrel : CRel X fid c cd) (hN : okCode N cd = true) (hrd : RdRel E rd r) (hS : StRel X K w0 E st w) (hT : TmRel E tm ds a N)
    (h : (stLoop X.cx rec an c tm ds rd st k).holds Θ E.va R) : BodyLoop (FW r) X.P cd (CodeOut X K w0 Θ R E st N k) a w := by
  unfold stLoop at h
  cases an with
  | none => exact plainLoop_ok hr hrel hN hrd hS hT h
  | some key =>
    cases hk : X.cx.ls.get key with
    | none =>
      simp only [hk] at h
      exact plainLoop_ok hr hrel hN hrd hS hT h
    | some s =>
      simp only [hk] at h
      cases s with
      | nm slots cells =>
        obtain ⟨tm', st', E', g1, g2, g3, g4, g5⟩ := nmLoop_ok hS hT h
        have hb := plainLoop_ok hr hrel hN (hrd.mono g1) g2 g4 g5
        exact fun b kk cs hro hbf hrm => let ⟨e, a', w', q, rr⟩ := hb b kk cs hro hbf hrm; ⟨e, a', w', q.trans List.prefix_rfl g1 g3, rr⟩
      | inv slots cells dead p args meas => exact invLoop_ok hr hrel hN hrd hS hT h
theorem run_ok (hc : CxOK X K w0) (hf : FnsOK X K w0 Θ) : ∀ n, RecOK X K w0 Θ (run X.cx n)
  | 0 => ⟨fun _ _ _ _ _ h => h.elim, fun _ _ _ _ _ h => h.elim, fun _ _ h => h.elim, fun _ _ _ h => h.elim⟩
  | n + 1 => by
    have hr := run_ok hc hf n
    exact ⟨fun hrel hN hrd hS hT h => code_ok hc hf hr hrel hN hrd hS hT h, fun hrel hN hrd hS hT h => loop_ok hr hrel hN hrd hS hT h, fun hS hx h => call_ok hc hf hr hS hx h, fun hS hm hx h => round_ok hr hS hm hx h⟩
end
end Go.Sy
/-! A program's tables; closed calls. -/
namespace Go.Sy
open Go.RowKit (Below)
theorem trS_get {α β : Type} (f : Nat → α → Option β) (l : List α) : ∀ (i : Nat) (t : Tr β) (j : Nat), (trS f l i t).get j = if i ≤ j ∧ j < i + l.length then (match (l[j - i]?).bind (f j) with | some y => some y | none => t.get j) else t.get j := by
  induction l with
  | nil => intro i t j; show t.get j = _; rw [if_neg (by simp)]
  | cons x l ih =>
    intro i t j
    show (trS f l (Nat.succ i) (Option.rec t (fun y => t.set i (some y)) (f i x))).get j = _
    rw [ih]
    have e1 : Nat.succ i = i + 1 := rfl
    rw [e1]
    by_cases c : i + 1 ≤ j ∧ j < i + 1 + l.length
    · rw [if_pos c, if_pos (by simp; omega)]
      obtain ⟨d, rfl⟩ : ∃ d, j = i + 1 + d := ⟨j - (i + 1), by omega⟩
      have e2 : i + 1 + d - (i + 1) = d := by omega
      have e3 : i + 1 + d - i = d + 1 := by omega
      rw [e2, e3, List.getElem?_cons_succ]
      cases (l[d]?).bind (f (i + 1 + d)) with
      | some y => rfl
      | none =>
        simp only
        cases f i x with
        | none => rfl
        | some y => exact Tr.get_set_other _ _ (by omega)
    · rw [if_neg c]
      by_cases c2 : j = i
      · subst c2
        rw [if_pos (by simp)]
        simp only [Nat.sub_self, List.getElem?_cons_zero, Option.bind_some]
        cases f j x with
        | none => rfl
        | some y => exact Tr.get_set_same _ _ _
      · rw [if_neg (by simp; omega)]
        cases f i x with
        | none => rfl
        | some y => exact Tr.get_set_other _ _ (by omega)
theorem trS_some {α β : Type} {f : Nat → α → Option β} {l : List α} {j : Nat} {y : β} (h : (trS f l 0 .nil).get j = some y) : ∃ x, l[j]? = some x ∧ f j x = some y := by
  rw [trS_get] at h
  split at h
  · rw [Nat.sub_zero] at h
    cases hl : l[j]? with
    | none => rw [hl] at h; simp at h
    | some x =>
      rw [hl] at h
      simp only [Option.bind_some] at h
      cases hf : f j x with
      | none => rw [hf] at h; simp at h
      | some z => rw [hf] at h; cases h; exact ⟨x, rfl, hf⟩
  · simp at h
theorem trK_eq {α β γ : Type} (f : Nat → α → Option β) (l : List α) : ∀ (i : Nat) (t : Tr β) (k : Tr β → γ), trK f l i t k = k (trS f l i t) := by
  induction l with
  | nil => intro i t k; rfl
  | cons x l ih =>
    intro i t k
    show (Option.rec (natK (Nat.succ i) fun j => trK f l j t k) (fun y => t.setK i (some y) fun t => natK (Nat.succ i) fun j => trK f l j t k) (f i x) : γ) = k (trS f l (Nat.succ i) (Option.rec t (fun y => t.set i (some y)) (f i x)))
    cases f i x with
    | none => show natK _ _ = _; rw [natK_eq]; exact ih _ _ _
    | some y => show Tr.setK _ _ _ _ = _; rw [Tr.setK_eq, natK_eq]; exact ih _ _ _
theorem runX_eq (P : Program) (con : Tr Con) (glob : Tr (Tr AV)) (n : Nat) (t : Task) (K : Res → VC) (ls : Tr LSpec) (ro : Tr (Tr AV)) (st : St) : runX P con glob n t K ls ro st = run (cxWith P con glob ls ro) n t st K := by
  unfold runX cxWith
  rw [trK_eq, trK_eq, trK_eq, trK_eq, trK_eq]
section
variable {P : Program}
theorem info_of {t : Nat} {i : TypeInfo} (h : P.types[t]? = some i) : P.info? t = some i := by
  have hlt : t < P.types.size := (Array.getElem?_eq_some_iff.1 h).1
  show Tables.info? P.toTables t = some i
  unfold Tables.info?
  rw [if_pos hlt]; exact h
noncomputable def tabs (P : Program) (hm : P.follows .mixedOrders = true) (con : Tr Con) (glob : Tr (Tr AV)) (ls : Tr LSpec := .nil) (ro : Tr (Tr AV) := .nil) : Tabs := ⟨P, cxWith P con glob ls ro, hm⟩
/-- What the package's variables hold. -/
def GlobOK (glob : Tr (Tr AV)) (w0 : World) : Prop := ∀ g t, glob.get g = some t → g < w0.heap.size ∧ ∀ i v, t.get i = some v → ∃ x, (∀ E, AV.den E v = some x) ∧ w0.cell? ⟨g, i, none⟩ = some x
theorem globOK_nil (w0 : World) : GlobOK .nil w0 := fun g t h => by simp at h
theorem cxOf_ok (P : Program) (hm : P.follows .mixedOrders = true) (con : Tr Con) {glob : Tr (Tr AV)} {ls : Tr LSpec} {ro : Tr (Tr AV)} {w0 : World} (hg : GlobOK glob w0) : CxOK (tabs P hm con glob ls ro) (· < w0.heap.size) w0 := by
  have hl : ∀ {t : Nat} {i : TypeInfo}, P.types.toList[t]? = some i → P.types[t]? = some i := fun h => by simpa using h
  refine ⟨fun t m h => ?_, fun t d h => ?_, fun t n h => ?_, fun t z h => ?_, fun t fs h f hf => ?_, fun g t h => ?_⟩
  · obtain ⟨i, hi, h⟩ := trS_some h
    obtain ⟨hb, h⟩ := bif_some h
    cases h
    simp only [Bool.and_eq_true, Bool.not_eq_true'] at hb
    exact ⟨hb.1, hb.2.1, by omega, hb.2.2⟩
  · obtain ⟨i, hi, h⟩ := trS_some h
    obtain ⟨d', hd, h⟩ := obind_inv h
    obtain ⟨_, h⟩ := bif_some h
    cases h
    have hi' := info_of (hl hi)
    show Program.underlying P t = some d
    unfold Program.underlying
    rw [hi']
    unfold descOf at hd
    obtain ⟨sz, dd, b, zz, rest⟩ := i
    split at hd
    · rename_i hn
      cases hu : P.types[‹TypeId›]? with
      | none => simp only [hu] at hd; cases hd
      | some k =>
        simp only [hu, Option.map_some, Option.some.injEq] at hd
        simp_all [info_of hu]
    · simp_all
  · have h : (trS (fun _ (i : TypeInfo) => some i.size) P.types.toList 0 .nil).get t = some n := h
    obtain ⟨i, hi, h⟩ := trS_some h
    cases h
    exact ⟨i, info_of (hl hi), rfl⟩
  · obtain ⟨i, hi, h⟩ := trS_some h
    obtain ⟨v, hv, h⟩ := obind_inv h
    obtain ⟨d, hd, h⟩ := obind_inv h
    obtain ⟨hag, h⟩ := bif_some h
    obtain ⟨z', hz', h⟩ := obind_inv h
    obtain ⟨hb, h⟩ := bif_some h
    cases h
    simp only [Bool.and_eq_true, ble_iff, beq_iff, decide_eq_true_eq, lenL_eq] at hb
    rw [bbeq_eq, decide_eq_true_eq] at hag
    refine ⟨i, v, info_of (hl hi), hv, hb.1, hb.2, fun E => denL_ofCells hz', fun d' hd' => ?_⟩
    obtain ⟨i', hi', h'⟩ := trS_some hd'
    rw [hi] at hi'; cases hi'
    obtain ⟨d'', hd'', h'⟩ := obind_inv h'
    obtain ⟨_, h'⟩ := bif_some h'
    cases h'
    rw [hd] at hd''; cases hd''
    exact hag
  · obtain ⟨i, hi, h⟩ := trS_some h
    obtain ⟨d', hd, h⟩ := obind_inv h
    obtain ⟨hb, h⟩ := bif_some h
    cases h
    simp only [fieldsIn, List.all_eq_true] at hb
    have := hb f hf
    rw [Nat.blt_eq] at this
    exact ⟨_, info_of (Array.getElem?_eq_getElem this)⟩
  · exact hg g t h
theorem st0_rel {X : Tabs} (hro : X.cx.ro = .nil) (w0 : World) : StRel X (· < w0.heap.size) w0 ⟨[], [], [], [], []⟩ st0 w0 :=
  ⟨rfl, rfl, rfl, rfl, rfl, fun _ h => h, .refl _ _, fun k p h => by simp at h, fun k b h => by simp [st0] at h, fun k b h => by simp [st0] at h, fun k1 k2 b1 b2 id1 sh1 id2 sh2 h => by simp [st0] at h, fun f l h => by simp [st0] at h,
   fun k b h => by simp [st0] at h, fun k b h => by simp [st0] at h, fun k1 k2 o1 o2 p h => by simp [st0] at h, fun k o h => by simp [st0] at h, fun c hc => (by cases hc), fun k b p h => by simp [st0] at h, fun f l h => by simp [st0] at h, ⟨fun i t h => by simp [hro] at h, fun c hc => (by cases hc)⟩⟩
/-- What the contracts promise. -/
def ConOK (P : Program) (hm : P.follows .mixedOrders = true) (con : Tr Con) (glob : Tr (Tr AV)) (w0 : World) (Θ : Pred) (ls : Tr LSpec := .nil) (ro : Tr (Tr AV) := .nil) : Prop :=
  ∀ f c, con.get f = some c → ∀ {args : List AV} {st : St} {k : Kt} {E : Env} {R : List Back} {w : World} {xs : List Value}, StRel (tabs P hm con glob ls ro) (· < w0.heap.size) w0 E st w → denL E args = some xs → (c args st k).holds Θ E.va R →
    OpRes P (Out (tabs P hm con glob ls ro) (· < w0.heap.size) w0 Θ R E st k) ((callFunc f xs.toArray).run P w)
theorem conOK_nil {hm : P.follows .mixedOrders = true} {glob : Tr (Tr AV)} {w0 : World} {Θ : Pred} {ls : Tr LSpec} {ro : Tr (Tr AV)} : ConOK P hm .nil glob w0 Θ ls ro := fun f c h => by simp at h
theorem fns_get {con : Tr Con} {glob : Tr (Tr AV)} {ls : Tr LSpec} {ro : Tr (Tr AV)} {f : Nat} {fi : FnI} (h : (cxWith P con glob ls ro).fns.get f = some fi) : ∃ fn c, P.funcs[f]? = some fn ∧ fn.body = some c ∧ cRess (cxWith P con glob ls ro).und (cxWith P con glob ls ro).size fn.results.toList = some fi.results ∧
    cCode (cxWith P con glob ls ro).und (cxWith P con glob ls ro).size (cxWith P con glob ls ro).zero f c = fi.body ∧ (fn.name == "runtime.NumGoroutine") = false ∧ okCode fn.ntmps c = true := by
  obtain ⟨fn, hfn, h⟩ := trS_some h
  obtain ⟨c, hc, h⟩ := obind_inv h
  obtain ⟨hb, h⟩ := bif_some h
  obtain ⟨r, hr, h⟩ := obind_inv h
  cases h
  simp only [Bool.and_eq_true, Bool.not_eq_true'] at hb
  exact ⟨fn, c, by simpa using hfn, hc, hr, rfl, hb.2, hb.1⟩
theorem cxOf_fns {hm : P.follows .mixedOrders = true} {con : Tr Con} {glob : Tr (Tr AV)} {ls : Tr LSpec} {ro : Tr (Tr AV)} {w0 : World} {Θ : Pred} (h : ConOK P hm con glob w0 Θ ls ro) : FnsOK (tabs P hm con glob ls ro) (· < w0.heap.size) w0 Θ :=
  ⟨fun _ _ hf => fns_get hf, fun f c hf => h f c hf⟩
noncomputable def hasFn (P : Program) (f : Nat) : Bool := Option.rec false (fun fn => Option.rec false (fun _ => not (fn.name == "runtime.NumGoroutine")) fn.body) (P.funcs[f]?)
theorem hasFn_inv {f : Nat} (h : hasFn P f = true) : ∃ fn, P.funcs[f]? = some fn ∧ fn.body.isSome = true ∧ (fn.name == "runtime.NumGoroutine") = false := by
  unfold hasFn at h
  cases hp : P.funcs[f]? with
  | none => rw [hp] at h; cases h
  | some fn =>
    rw [hp] at h
    cases hb : fn.body with
    | none => simp only [hb] at h; cases h
    | some c => simp only [hb] at h; exact ⟨fn, rfl, by rw [hb]; rfl, by simpa using h⟩
abbrev E0 : Env := ⟨[], [], [], [], []⟩
/-- A call, in a state that is known in part. -/
theorem calls_of_runE {X : Tabs} {K : Nat → Prop} {w0 : World} {Θ : Pred} (hc : CxOK X K w0) (hf : FnsOK X K w0 Θ) {n f : Nat} {args : List AV} {k : Res → VC} {st : St} {E : Env} {R : List Back} {w : World} {xs : List Value} (hS : StRel X K w0 E st w) (hx : denL E args = some xs)
    (h : (run X.cx n (.call f args) st k).holds Θ E.va R) (hfn : hasFn X.P f = true) : Calls X.P f xs.toArray w fun e w' => ∃ v, e = .returned v ∧ OutV X K w0 Θ R E st k v w' := by
  have hr := (run_ok hc hf n).call hS hx h
  obtain ⟨fn, g1, g2, g3⟩ := hasFn_inv hfn
  rw [callFunc_enter (P := X.P) g1 g2 g3] at hr
  have hr : CallsIn (FW none) 0 X.P f xs.toArray w _ := hr
  refine (CallsIn.calls hr (FW_room none)).mono fun e w' he => ?_
  cases e with
  | returned v => exact ⟨v, rfl, he⟩
  | panicked c => exact he.elim
  | outgrown => exact he.elim
/-- A call, of nothing, whose condition holds. -/
theorem calls_of_run (hm : P.follows .mixedOrders = true) {con : Tr Con} {glob : Tr (Tr AV)} {ls : Tr LSpec} {Θ : Pred} {n f : Nat} {k : Res → VC} {w0 : World} (hg : GlobOK glob w0) (hcon : ConOK P hm con glob w0 Θ ls) (h : (runX P con glob n (.call f []) k ls).holds Θ E0.va []) (hfn : hasFn P f = true) :
    Calls P f #[] w0 fun e w' => ∃ v, e = .returned v ∧ OutV (tabs P hm con glob ls) (· < w0.heap.size) w0 Θ [] E0 st0 k v w' := by
  rw [runX_eq] at h
  exact calls_of_runE (X := tabs P hm con glob ls) (cxOf_ok P hm con hg) (cxOf_fns hcon) (st0_rel rfl w0) (xs := []) rfl h hfn
theorem isTrueK_out {X : Tabs} {K : Nat → Prop} {w0 : World} {Θ : Pred} {R : List Back} {E : Env} {st : St} {v : Value} {w' : World} (h : OutV X K w0 Θ R E st isTrueK v w') : v = .bool true ∧ Kept K w0 w' := by
  obtain ⟨v', st', E', R', _, h2, _, h4, _, h6⟩ := h
  refine ⟨?_, h4.kept⟩
  unfold isTrueK at h2
  split at h2
  · rename_i st e
    cases e
    rw [← Option.some.inj h6]
  · rename_i cc st e
    cases e
    obtain ⟨b, hb, hv⟩ := den_cnd h6
    obtain ⟨h7, _⟩ := needK_inv h2 h4.facts hb
    rw [hv, h7]
  · exact h2.elim
/-- A closed call returns true. -/
theorem closed_true (hm : P.follows .mixedOrders = true) {con : Tr Con} {glob : Tr (Tr AV)} {n f : Nat} (h : (runX P con glob n (.call f []) isTrueK).triv = true) (hfn : hasFn P f = true) {w0 : World} (hg : GlobOK glob w0) (hcon : ConOK P hm con glob w0 fun _ _ => True) :
    Calls P f #[] w0 fun e w' => e = .returned (.bool true) ∧ Below w0.heap.size w0 w' :=
  (calls_of_run hm hg hcon (triv_holds h) hfn).mono fun e w' ⟨v, he, ho⟩ => by
    obtain ⟨h1, h2⟩ := isTrueK_out ho
    subst h1
    exact ⟨he, Kept.below h2⟩
end
end Go.Sy
/-! A law's row. -/
namespace Go.Sy
open Go.RowKit (Below)
section
open Go.ChangeShapes Go.WideShapes Go.ChangeAt
variable {P : Program} {H : Type} {enc : TypeId × Value → H}
/-- The row's end, where what was there is as it was. -/
theorem post_of_below {f : Func} {s : ChangeSpec} {apart fresh handsOn again : Bool} {W W' : World} {args : Array Value} {v : Value} {ds gs : List (DataW H)} {before pa pv : List MemPlace}
    (hW : DataW.Whole enc P f.params.toList s.vars apart W args.toList ds gs before)
    (hres : ∀ (b : Nat) (sp : Nat → Bool) (hd : Bool), DataW.TrodAll enc P W' b sp hd f.resultTypes.toList (v.resultList f.resultTypes.size) (s.fn H (ds ++ gs)).results [])
    (hargs : ∀ sp : Nat → Bool, (∀ p ∈ before, sp p.block = true) → DataW.TrodAll enc P W' 0 sp true f.params.toList args.toList (s.fn H (ds ++ gs)).args pa)
    (hvars : ∀ sp : Nat → Bool, (∀ p ∈ before, sp p.block = true) → DataW.TrodVars enc P W' sp s.vars (s.fn H (ds ++ gs)).vars pv)
    (hps : before = pa ++ pv) (hb : Below W.heap.size W W')
    (hok : ∀ (j : Nat) (t : TypeId) (r : Value), f.resultTypes[j]? = some t → (v.resultList f.resultTypes.size)[j]? = some r → Value.okWide P W' .any 0 t r) :
    s.post enc P f apart fresh handsOn again W args v W' := by
  have hold : ∀ p ∈ before, (fun b => decide (b < W.heap.size)) p.block = true := fun p hp => by simpa using hW.lt p hp
  refine ⟨ds, gs, before, [], pa, pv, hW, hres _ _ _, hargs _ hold, hvars _ hold, World.keptBut_mono (fun p hp => ⟨hp, ?_⟩) (hb.frame (· ∈ before)), fun _ => ?_⟩
  · rw [hps, List.mem_append] at hp
    exact Or.inr hp
  · have hlt := fun p hp => hW.lt p hp
    obtain ⟨_, _, _, _, _, hz, hn⟩ := hW
    refine ⟨hok, _, _, ([] ++ pa) ++ pv, ⟨[] ++ pa, pv, trodAll_append (hargs _ (fun _ _ => rfl)) (hres _ _ _), hvars _ (fun _ _ => rfl), rfl, ?_, ?_⟩, ?_⟩
    · intro b off hp
      rw [List.nil_append, ← hps] at hp
      rw [hb.frozen (p := ⟨b, off, none⟩) (hlt _ hp)]
      exact hz b off hp
    · intro ha
      have := hn ha
      rw [hps] at this
      simpa using this
    · intro p hp _
      rw [hps]
      simpa using hp
end

section
open Go.ChangeShapes Go.WideShapes Go.ChangeAt Go.RowKit
variable {P : Program} {H : Type} {enc : TypeId × Value → H}
noncomputable def readAll (P : Program) (ts : List TypeId) : Bool := ts.all fun t => P.readableRec t && decide (t < P.types.size)
theorem trodAll_stays (hl : laidOutB P = true) {W W' : World} {sp : Nat → Bool} : ∀ {ts : List TypeId} {vs : List Value} {ds : List (DataW H)} {ps : List MemPlace}, readAll P ts = true →
    DataW.TrodAll enc P W 0 (fun _ => true) true ts vs ds ps → (∀ p ∈ ps, W.sameAt W' p) → (∀ p ∈ ps, sp p.block = true) → DataW.TrodAll enc P W' 0 sp true ts vs ds ps
  | [], [], [], ps, _, h, _, _ => h
  | t :: ts, v :: vs, d :: ds, ps, hr, h, hs, hp => by
    obtain ⟨p, q, h1, h2, rfl⟩ := h
    simp only [readAll, List.all_cons, Bool.and_eq_true, decide_eq_true_eq] at hr
    exact ⟨p, q, WideElems.Trod_stays hl hr.1.1 hr.1.2 h1 (fun x hx => hs x (List.mem_append_left _ hx)) (fun x hx => hp x (List.mem_append_left _ hx)),
      trodAll_stays hl (by simpa [readAll] using hr.2) h2 (fun x hx => hs x (List.mem_append_right _ hx)) (fun x hx => hp x (List.mem_append_right _ hx)), rfl⟩
  | [], [], _ :: _, _, _, h, _, _ => h.elim
  | [], _ :: _, _, _, _, h, _, _ => h.elim
  | _ :: _, [], _, _, _, h, _, _ => h.elim
  | _ :: _, _ :: _, [], _, _, h, _, _ => h.elim

theorem trodAll_length {W : World} {sp : Nat → Bool} {b : Nat} {hd : Bool} : ∀ {ts : List TypeId} {vs : List Value} {ds : List (DataW H)} {ps : List MemPlace}, DataW.TrodAll enc P W b sp hd ts vs ds ps → vs.length = ts.length ∧ ds.length = ts.length
  | [], [], [], ps, _ => ⟨rfl, rfl⟩
  | t :: ts, v :: vs, d :: ds, ps, h => by
    obtain ⟨p, q, _, h2, _⟩ := h
    have := trodAll_length h2
    simp [this.1, this.2]
  | [], [], _ :: _, _, h => h.elim
  | [], _ :: _, _, _, h => h.elim
  | _ :: _, [], _, _, h => h.elim
  | _ :: _, _ :: _, [], _, h => h.elim

/-- The row's end. -/
theorem law_post {f : Func} {s : ChangeSpec} {W W' : World} {args : Array Value} {ds gs : List (DataW H)} {before : List MemPlace} {tb : TypeId} (hl : laidOutB P = true) (hv : s.vars = []) (hr : readAll P f.params.toList = true)
    (hres : f.resultTypes = #[tb]) (htb : P.underlying tb = some .bool) (hW : DataW.Whole enc P f.params.toList s.vars false W args.toList ds gs before)
    (hs1 : (s.fn H ds).results = [.lit (.bool true)]) (hs2 : (s.fn H ds).args = ds) (hs3 : (s.fn H ds).vars = []) (hb : Below W.heap.size W W') :
    s.post enc P f false true false false W args (.bool true) W' := by
  have hW' := hW
  have hlt := fun p hp => hW.lt p hp
  obtain ⟨p, q, hA, hV, rfl, hfz, hnd⟩ := hW
  rw [hv] at hV
  obtain ⟨rfl, rfl⟩ := trodVars_none hV
  rw [List.append_nil] at hW' hlt
  refine post_of_below (pa := p) (pv := []) hW' (fun _ _ _ => ?_) (fun sp hsp => ?_) (fun _ _ => ?_) (by simp) hb ?_
  · rw [List.append_nil, hs1, hres]
    exact trodAll_mk1 (shut_bool htb _)
  · rw [List.append_nil, hs2]
    exact trodAll_stays hl hr hA (fun x hx => hb.same (hlt x hx)) (fun x hx => hsp x hx)
  · rw [List.append_nil, hs3, hv]; rfl
  · exact ok_one hres rfl (okWide_bool_mk htb _)

end
end Go.Sy
/-! What the package's variables hold. -/
namespace Go.Sy
noncomputable def litAV : DataW Unit → Option AV
  | .lit (.int k n) => ofInt k n
  | .lit (.string l) => some (.str l.length (l.map UInt8.toNat))
  | _ => none
noncomputable def litAVs (l : List (DataW Unit)) : Option (List AV) := List.rec (motive := fun _ => Option (List AV)) (some []) (fun d _ ih => obind (litAV d) fun v => obind ih fun r => some (v :: r)) l
noncomputable def partsOf : DataW Unit → List (DataW Unit)
  | .agg l => l
  | _ => []
noncomputable def globOf (P : Program) (l : List (String × DataW Unit)) : Tr (Tr AV) :=
  List.rec (motive := fun _ => Tr (Tr AV)) .nil (fun x _ ih => Option.rec ih (fun g => Option.rec ih (fun vs => ih.set g (some (puts vs 0 .nil))) (litAVs (partsOf x.2))) (P.globalNamed x.1)) l
noncomputable def elemOK (P : Program) (e : TypeId) : Bool := match P.underlying e with
  | some (.int _) => Nat.beq (P.cellsOf e) 1
  | some .string => Nat.beq (P.cellsOf e) 1
  | _ => false
noncomputable def globWf (P : Program) (l : List (String × DataW Unit)) : Bool := l.all fun x => match P.globalNamed x.1 with
  | some g => match (P.globals[g]?).map (·.type) with
    | some t => match P.underlying t with
      | some (.array n e) => elemOK P e && Nat.beq (partsOf x.2).length n
      | _ => false
    | none => false
  | none => false
section
variable {P : Program} {W : World}
theorem litAVs_get : ∀ {l : List (DataW Unit)} {vs : List AV}, litAVs l = some vs → ∀ {i : Nat} {v : AV}, vs[i]? = some v → ∃ d, l[i]? = some d ∧ litAV d = some v
  | [], vs, h, i, v, hv => by cases h; simp at hv
  | d :: l, vs, h, i, v, hv => by
    change obind (litAV d) (fun v => obind (litAVs l) fun r => some (v :: r)) = some vs at h
    obtain ⟨v0, h1, h⟩ := obind_inv h
    obtain ⟨r, h2, h⟩ := obind_inv h
    cases h
    cases i with
    | zero => simp at hv; subst hv; exact ⟨d, rfl, h1⟩
    | succ i => obtain ⟨d', h3, h4⟩ := litAVs_get h2 (i := i) (v := v) (by simpa using hv); exact ⟨d', by simpa using h3, h4⟩
theorem lit_cell {e : TypeId} (he : elemOK P e = true) {c : List Value} {enc : TypeId × Value → Unit} {b : Nat} {sp : Nat → Bool} {hd : Bool} {f : Nat} {d : DataW Unit} {p : List MemPlace} (h : DataW.trod enc P W b sp hd f e c = some (d, p)) {v : AV} (hv : litAV d = some v) : ∃ x, c = [x] ∧ ∀ E, v.den E = some x := by
  unfold elemOK at he
  split at he
  · rename_i k hk
    obtain ⟨n, rfl, hx, _⟩ := DataW.trod_int hk h
    cases hx
    exact ⟨_, rfl, fun E => den_ofCell (v := .int k n) hv⟩
  · rename_i hk
    obtain ⟨s, rfl, hx, _⟩ := DataW.trod_string hk h
    cases hx
    refine ⟨_, rfl, fun E => ?_⟩
    have hv' : ofCell (.string s) = some v := by
      rw [← hv]
      show some (AV.str s.size (s.data.toList.map UInt8.toNat)) = some (AV.str s.data.toList.length (s.data.toList.map UInt8.toNat))
      rw [Array.length_toList]; rfl
    exact den_ofCell hv'
  · cases he
theorem glob_laid {enc : TypeId × Value → Unit} : ∀ {l : List (String × DataW Unit)} {ps : List MemPlace}, DataW.LaidVars P W l ps → globWf P l = true → GlobOK (globOf P l) W
  | [], ps, _, _ => globOK_nil W
  | (nm, d) :: l, ps, h, hw => by
    simp only [globWf, List.all_cons, Bool.and_eq_true] at hw
    obtain ⟨g, t, cs, f, p, q, hg, ht, hv, htr, hrest, _⟩ := h
    have ih := glob_laid (enc := enc) hrest (by simpa [globWf] using hw.2)
    have hw1 := hw.1
    simp only [hg] at hw1
    rw [ht] at hw1
    simp only at hw1
    change GlobOK (Option.rec (globOf P l) (fun g => Option.rec (globOf P l) (fun vs => (globOf P l).set g (some (puts vs 0 .nil))) (litAVs (partsOf d))) (P.globalNamed nm)) W
    rw [hg]
    change GlobOK (Option.rec (globOf P l) (fun vs => (globOf P l).set g (some (puts vs 0 .nil))) (litAVs (partsOf d))) W
    cases hl : litAVs (partsOf d) with
    | none => exact ih
    | some vs =>
      intro g' t' hg'
      change ((globOf P l).set g (some (puts vs 0 .nil))).get g' = some t' at hg'
      rw [Tr.get_set] at hg'
      by_cases c : g = g'
      · subst c
        rw [if_pos rfl] at hg'
        cases hg'
        cases hu : P.underlying t with
        | none => rw [hu] at hw1; cases hw1
        | some du =>
          rw [hu] at hw1
          cases du <;> try (cases hw1; done)
          rename_i n e
          simp only [Bool.and_eq_true, beq_iff, decide_eq_true_eq] at hw1
          obtain ⟨he, hn⟩ := hw1
          obtain ⟨xs, m, rfl, hx, hlen, hxn, hel⟩ := DataW.trod_array hu htr
          have hd : d = .agg (xs.map (·.1)) := by simpa using congrArg Prod.fst hx
          have hc1 : P.cellsOf e = 1 := by
            unfold elemOK at he
            split at he <;> first | (cases he; done) | (rw [beq_iff, decide_eq_true_eq] at he; exact he)
          refine ⟨?_, fun i v hi => ?_⟩
          · have := World.var?_cell hg hv 0
            simp only [World.var?, hg, Option.bind_some] at hv
            split at hv
            · rename_i hh; exact (Array.getElem?_eq_some_iff.1 hh).1
            · cases hv
          · rw [puts_get] at hi
            split at hi
            · rename_i hlt
              rw [Nat.sub_zero] at hi
              obtain ⟨di, hdi, hli⟩ := litAVs_get hl hi
              rw [hd] at hdi
              simp only [partsOf, List.getElem?_map, Option.map_eq_some_iff] at hdi
              obtain ⟨xi, hxi, hfst⟩ := hdi
              obtain ⟨dd, pp⟩ := xi
              simp only at hfst
              subst hfst
              have hin : i < n := by have := (List.getElem?_eq_some_iff.1 hxi).1; omega
              have h1 := hel i hin
              rw [hxi, hc1, Nat.mul_one] at h1
              obtain ⟨x, hx1, hx2⟩ := lit_cell he h1 hli
              refine ⟨x, hx2, ?_⟩
              rw [World.var?_cell hg hv i]
              have : (cs.toList.drop i).take 1 = [x] := hx1
              have h3 : ((cs.toList.drop i).take 1)[0]? = some x := by rw [this]; rfl
              rw [List.getElem?_take_of_lt (by decide), List.getElem?_drop] at h3
              simpa using h3
            · simp at hi
      · rw [if_neg c] at hg'
        exact ih g' t' hg'
theorem glob_met {l : List (String × DataW Unit)} (hp : (l.all fun x => x.2.handleName?.isNone) = true) (hw : globWf P l = true) (h : laidMetH P l W) : GlobOK (globOf P l) W := by
  rw [MakeChecks.laidMetH_plain _ _ _ hp] at h
  obtain ⟨ps, h, _⟩ := h
  exact glob_laid (enc := fun _ => ()) h hw
end
end Go.Sy
/-! Calls with arguments of whole numbers and truth values that are not known. -/
namespace Go.Sy
open Go.RowKit (Below)

/-- The start: so many numbers, of which some is known. -/
noncomputable def stS (nz : Nat) (fs : List T) : St := ⟨0, 0, .nil, .nil, ⟨.nil, .nil, fs, nz, 0, 0, []⟩⟩
/-- A run from there, the tables written out. -/
noncomputable def runS (P : Program) (con : Tr Con) (glob : Tr (Tr AV)) (n nz : Nat) (fs : List T) (t : Task) (K : Res → VC) (ls : Tr LSpec := .nil) : VC :=
  trK (fun _ => undOf P.types) P.types.toList 0 .nil fun u => trK (fun _ i => some i.size) P.types.toList 0 .nil fun s => trK (fun _ => zeroOf P.types) P.types.toList 0 .nil fun z =>
  trK (fun i _ => eqmOf P i) P.types.toList 0 .nil fun e => trK (fnOf u s z) P.funcs.toList 0 .nil fun f =>
  run { eqm := e, und := u, size := s, zero := z, fns := f, glob := glob, con := con, ls := ls } n t (stS nz fs) K
theorem runS_eq (P : Program) (con : Tr Con) (glob : Tr (Tr AV)) (n nz : Nat) (fs : List T) (t : Task) (K : Res → VC) (ls : Tr LSpec) : runS P con glob n nz fs t K ls = run (cxWith P con glob ls) n t (stS nz fs) K := by
  unfold runS cxWith
  rw [trK_eq, trK_eq, trK_eq, trK_eq, trK_eq]
abbrev EZ (zs : List Int) : Env := ⟨[], [], zs, [], []⟩
theorem stS_rel {X : Tabs} (hro : X.cx.ro = .nil) (w0 : World) {zs : List Int} {fs : List T} (hf : FOK ⟨zs, []⟩ fs) : StRel X (· < w0.heap.size) w0 (EZ zs) (stS zs.length fs) w0 :=
  ⟨rfl, rfl, rfl, rfl, rfl, fun _ h => h, .refl _ _, fun k p h => by simp at h, fun k b h => by simp [stS] at h, fun k b h => by simp [stS] at h, fun k1 k2 b1 b2 id1 sh1 id2 sh2 h => by simp [stS] at h, fun f l h => by simp [stS] at h,
   fun k b h => by simp [stS] at h, fun k b h => by simp [stS] at h, fun k1 k2 o1 o2 p h => by simp [stS] at h, fun k o h => by simp [stS] at h, hf, fun k b p h => by simp [stS] at h, fun f l h => by simp [stS] at h, ⟨fun i t h => by simp [hro] at h, fun c hc => (by cases hc)⟩⟩

section
variable {P : Program}
/-- Whatever the numbers are of which that is known, the call returns true. -/
def Symb (P : Program) (hm : P.follows .mixedOrders = true) (con : Tr Con) (glob : Tr (Tr AV)) (f : Nat) (args : List AV) (nz : Nat) (fs : List T) (ls : Tr LSpec := .nil) : Prop :=
  ∀ (zs : List Int) (W : World) (xs : List Value), zs.length = nz → FOK ⟨zs, []⟩ fs → denL (EZ zs) args = some xs → GlobOK glob W → (∀ Θ, ConOK P hm con glob W Θ ls) →
    Calls P f xs.toArray W fun e w' => e = .returned (.bool true) ∧ Below W.heap.size W w'
/-- The same, where what is owed is shown. -/
theorem Symb.runV {hm : P.follows .mixedOrders = true} {con : Tr Con} {glob : Tr (Tr AV)} {n f nz : Nat} {args : List AV} {fs : List T} {ls : Tr LSpec} (Θ : Pred)
    (h : ∀ zs : List Int, zs.length = nz → FOK ⟨zs, []⟩ fs → (runS P con glob n nz fs (.call f args) isTrueK ls).holds Θ ⟨zs, []⟩ []) (hfn : hasFn P f = true) : Symb P hm con glob f args nz fs ls := by
  intro zs W xs hz hf hd hg hcon
  have h := h zs hz hf
  subst hz
  rw [runS_eq] at h
  refine (calls_of_runE (X := tabs P hm con glob ls) (cxOf_ok P hm con hg) (cxOf_fns (hcon Θ)) (E := EZ zs) (R := []) (stS_rel rfl W hf) hd h hfn).mono fun e w' ⟨v, he, ho⟩ => ?_
  obtain ⟨h1, h2⟩ := isTrueK_out ho
  subst h1
  exact ⟨he, Kept.below h2⟩
theorem Symb.run {hm : P.follows .mixedOrders = true} {con : Tr Con} {glob : Tr (Tr AV)} {n f nz : Nat} {args : List AV} {fs : List T} {ls : Tr LSpec} (h : (runS P con glob n nz fs (.call f args) isTrueK ls).triv = true) (hfn : hasFn P f = true) :
    Symb P hm con glob f args nz fs ls := Symb.runV (fun _ _ => True) (fun _ _ _ => triv_holds h) hfn

/-- A comparison of numbers. -/
noncomputable def simpT (nz : Nat) : T → Bool
  | .z _ => true
  | .zv i => Nat.blt i nz
  | _ => false
noncomputable def zcOK (nz : Nat) : T → Bool
  | .cmp op x y => (isCmp op && simpT nz x) && simpT nz y
  | _ => false
theorem simpT_ev {zs : List Int} {t : T} (h : simpT zs.length t = true) : ∃ n, t.ev ⟨zs, []⟩ = some (.i n) := by
  unfold simpT at h
  split at h
  · exact ⟨_, rfl⟩
  · rename_i i
    rw [Nat.blt_eq] at h
    exact ⟨zs[i], by simp [T.ev, h]⟩
  · cases h
theorem zcOK_ev {zs : List Int} {c : T} (h : zcOK zs.length c = true) : ∃ b, c.ev ⟨zs, []⟩ = some (.b b) := by
  unfold zcOK at h
  split at h
  · rename_i op x y
    simp only [Bool.and_eq_true] at h
    obtain ⟨n, hn⟩ := simpT_ev h.1.2
    obtain ⟨m, hm⟩ := simpT_ev h.2
    have h1 := h.1.1
    rw [cmp_ev hn hm]
    cases op <;> first | (exact absurd h1 (by decide)) | exact ⟨_, rfl⟩
  · cases h
theorem Symb.cut {hm : P.follows .mixedOrders = true} {con : Tr Con} {glob : Tr (Tr AV)} {f nz : Nat} {args : List AV} {fs : List T} {ls : Tr LSpec} (c : T) (hc : zcOK nz c = true) (h1 : Symb P hm con glob f args nz (addF c fs) ls) (h2 : Symb P hm con glob f args nz (addF (mkNot c) fs) ls) :
    Symb P hm con glob f args nz fs ls := by
  intro zs W xs hz hf hd hg hcon
  obtain ⟨b, hb⟩ := zcOK_ev (zs := zs) (hz ▸ hc)
  cases b with
  | true => exact h1 zs W xs hz (addF_ok hb hf) hd hg hcon
  | false => exact h2 zs W xs hz (addF_ok (mkNot_ev hb) hf) hd hg hcon
theorem Symb.drop {hm : P.follows .mixedOrders = true} {con : Tr Con} {glob : Tr (Tr AV)} {f nz : Nat} {args : List AV} {fs : List T} {ls : Tr LSpec} (h : Symb P hm con glob f args nz [] ls) : Symb P hm con glob f args nz fs ls :=
  fun zs W xs hz _ => h zs W xs hz fun _ h => by cases h
theorem Symb.eq {hm : P.follows .mixedOrders = true} {con : Tr Con} {glob : Tr (Tr AV)} {f nz : Nat} {args : List AV} {fs gs : List T} {ls : Tr LSpec} (h : Symb P hm con glob f args nz gs ls) (he : gs = fs) : Symb P hm con glob f args nz fs ls := he ▸ h
end

/-! ### The arguments -/
/-- A cell: a whole number, or a truth value. -/
inductive Ck where
  | i (k : IntKind)
  | b
noncomputable def Ck.av (j : Nat) : Ck → AV
  | .i k => .sym k (.zv j)
  | .b => .cnd (.cmp .neq (.zv j) (.z 0))
noncomputable def Ck.facts (j : Nat) : Ck → List T
  | .i k => [.cmp .geq (.zv j) (.z (minOf k)), .cmp .leq (.zv j) (.z (maxOf k))]
  | .b => []
def Ck.fits (v : Value) (n : Int) : Ck → Prop
  | .i k => v = .int k n ∧ (Lit.int k n).wf = true
  | .b => v = .bool (decide (n ≠ 0))
def fitL : List Ck → List Value → List Int → Prop
  | [], [], [] => True
  | c :: cs, v :: vs, n :: ns => c.fits v n ∧ fitL cs vs ns
  | _, _, _ => False
noncomputable def tmplL (j : Nat) : List Ck → List AV
  | [] => []
  | c :: cs => c.av j :: tmplL (j + 1) cs
noncomputable def factL (j : Nat) : List Ck → List T
  | [] => []
  | c :: cs => c.facts j ++ factL (j + 1) cs
inductive Sh where
  | one (c : Ck)
  | agg (cs : List Ck)
def Sh.cs : Sh → List Ck
  | .one c => [c]
  | .agg cs => cs
noncomputable def Sh.tmpl (j : Nat) : Sh → AV
  | .one c => c.av j
  | .agg cs => .agg (tmplL j cs)
noncomputable def tmpls : Nat → List Sh → List AV
  | _, [] => []
  | j, s :: r => s.tmpl j :: tmpls (j + s.cs.length) r
noncomputable def facts (j : Nat) (ss : List Sh) : List T := factL j (ss.flatMap Sh.cs)
def Sh.fits (v : Value) (ns : List Int) : Sh → Prop
  | .one c => ∃ n, ns = [n] ∧ c.fits v n
  | .agg cs => ∃ vs, v = .agg vs.toArray ∧ fitL cs vs ns
def argsFit : List Sh → List Value → List Int → Prop
  | [], [], [] => True
  | s :: ss, v :: vs, ns => ∃ n1 n2, ns = n1 ++ n2 ∧ s.fits v n1 ∧ argsFit ss vs n2
  | _, _, _ => False

theorem fitL_len : ∀ {cs : List Ck} {vs : List Value} {ns : List Int}, fitL cs vs ns → ns.length = cs.length
  | [], [], [], _ => rfl
  | c :: cs, v :: vs, n :: ns, h => by simp [fitL_len h.2]
  | [], [], _ :: _, h => h.elim
  | [], _ :: _, _, h => h.elim
  | _ :: _, [], _, h => h.elim
  | _ :: _, _ :: _, [], h => h.elim
theorem shfits_len {s : Sh} {v : Value} {ns : List Int} (h : s.fits v ns) : ns.length = s.cs.length := by
  cases s with
  | one c => obtain ⟨n, rfl, _⟩ := h; rfl
  | agg cs => obtain ⟨vs, _, h⟩ := h; exact fitL_len h
theorem minmax {k : IntKind} {n : Int} (h : (Lit.int k n).wf = true) : minOf k ≤ n ∧ n ≤ maxOf k := by
  simp only [Lit.wf, Bool.and_eq_true, decide_eq_true_eq] at h
  cases k <;> simp only [IntKind.min, IntKind.max, IntKind.signed, IntKind.bits] at h <;> simp [minOf, maxOf] at h ⊢ <;> omega
theorem av_den {c : Ck} {v : Value} {n : Int} {zs : List Int} {j : Nat} (h : c.fits v n) (hz : zs[j]? = some n) : AV.den (EZ zs) (c.av j) = some v := by
  cases c with
  | i k =>
    obtain ⟨rfl, hw⟩ := h
    have hz' : (EZ zs).va.z[j]? = some n := hz
    simp [Ck.av, AV.den, T.ev, hz', hw]
  | b =>
    have h : v = .bool (decide (n ≠ 0)) := h
    subst h
    have hz' : (EZ zs).va.z[j]? = some n := hz
    simp [Ck.av, AV.den, T.ev, hz', zcm]
theorem facts_ok {c : Ck} {v : Value} {n : Int} {zs : List Int} {j : Nat} (h : c.fits v n) (hz : zs[j]? = some n) : FOK ⟨zs, []⟩ (c.facts j) := by
  cases c with
  | i k =>
    obtain ⟨rfl, hw⟩ := h
    obtain ⟨h1, h2⟩ := minmax hw
    intro t ht
    simp only [Ck.facts, List.mem_cons, List.not_mem_nil, or_false] at ht
    rcases ht with rfl | rfl <;> simp [T.ev, hz, zcm, h1, h2]
  | b => exact fun t ht => (by cases ht)
theorem tmplL_den {zs : List Int} : ∀ {cs : List Ck} {vs : List Value} {ns : List Int} {j : Nat}, fitL cs vs ns → (∀ i, i < ns.length → zs[j + i]? = ns[i]?) → denL (EZ zs) (tmplL j cs) = some vs
  | [], [], [], _, _, _ => rfl
  | c :: cs, v :: vs, n :: ns, j, h, hz => by
    have h0 := hz 0 (by simp)
    simp only [Nat.add_zero, List.getElem?_cons_zero] at h0
    have ht := tmplL_den (j := j + 1) h.2 fun i hi => by
      have := hz (i + 1) (by simpa using hi)
      simp only [List.getElem?_cons_succ] at this
      rw [← this]; congr 1; omega
    simp only [tmplL, denL, av_den h.1 h0, ht]
  | [], [], _ :: _, _, h, _ => h.elim
  | [], _ :: _, _, _, h, _ => h.elim
  | _ :: _, [], _, _, h, _ => h.elim
  | _ :: _, _ :: _, [], _, h, _ => h.elim
theorem FOK.append {ρ : Va} {a b : List T} (ha : FOK ρ a) (hb : FOK ρ b) : FOK ρ (a ++ b) := fun c hc => (List.mem_append.1 hc).elim (ha c) (hb c)
theorem factL_ok {zs : List Int} : ∀ {cs : List Ck} {vs : List Value} {ns : List Int} {j : Nat}, fitL cs vs ns → (∀ i, i < ns.length → zs[j + i]? = ns[i]?) → FOK ⟨zs, []⟩ (factL j cs)
  | [], [], [], _, _, _ => fun c hc => (by cases hc)
  | c :: cs, v :: vs, n :: ns, j, h, hz => by
    have h0 := hz 0 (by simp)
    simp only [Nat.add_zero, List.getElem?_cons_zero] at h0
    refine (facts_ok h.1 h0).append (factL_ok (j := j + 1) h.2 fun i hi => ?_)
    have := hz (i + 1) (by simpa using hi)
    simp only [List.getElem?_cons_succ] at this
    rw [← this]; congr 1; omega
  | [], [], _ :: _, _, h, _ => h.elim
  | [], _ :: _, _, _, h, _ => h.elim
  | _ :: _, [], _, _, h, _ => h.elim
  | _ :: _, _ :: _, [], _, h, _ => h.elim
theorem fitL_append : ∀ {cs : List Ck} {vs : List Value} {ns : List Int} {bs : List Ck} {ws : List Value} {ms : List Int}, fitL cs vs ns → fitL bs ws ms → fitL (cs ++ bs) (vs ++ ws) (ns ++ ms)
  | [], [], [], _, _, _, _, h => h
  | _ :: _, _ :: _, _ :: _, _, _, _, h, h' => ⟨h.1, fitL_append h.2 h'⟩
  | [], [], _ :: _, _, _, _, h, _ => h.elim
  | [], _ :: _, _, _, _, _, h, _ => h.elim
  | _ :: _, [], _, _, _, _, h, _ => h.elim
  | _ :: _, _ :: _, [], _, _, _, h, _ => h.elim
theorem shfits_flat {s : Sh} {v : Value} {ns : List Int} (h : s.fits v ns) : ∃ vs, fitL s.cs vs ns := by
  cases s with
  | one c => obtain ⟨n, rfl, h⟩ := h; exact ⟨[v], h, trivial⟩
  | agg cs => obtain ⟨vs, _, h⟩ := h; exact ⟨vs, h⟩
theorem args_flat : ∀ {ss : List Sh} {vs : List Value} {ns : List Int}, argsFit ss vs ns → ∃ ws, fitL (ss.flatMap Sh.cs) ws ns
  | [], [], [], _ => ⟨[], trivial⟩
  | s :: ss, v :: vs, ns, h => by
    obtain ⟨n1, n2, rfl, h1, h2⟩ := h
    obtain ⟨w1, g1⟩ := shfits_flat h1
    obtain ⟨w2, g2⟩ := args_flat h2
    exact ⟨w1 ++ w2, by rw [List.flatMap_cons]; exact fitL_append g1 g2⟩
  | [], [], _ :: _, h => h.elim
  | [], _ :: _, _, h => h.elim
  | _ :: _, [], _, h => h.elim
theorem sh_den {zs : List Int} {s : Sh} {v : Value} {ns : List Int} {j : Nat} (h : s.fits v ns) (hz : ∀ i, i < ns.length → zs[j + i]? = ns[i]?) : AV.den (EZ zs) (s.tmpl j) = some v := by
  cases s with
  | one c =>
    obtain ⟨n, rfl, h⟩ := h
    have h0 := hz 0 (by simp)
    simp only [Nat.add_zero, List.getElem?_cons_zero] at h0
    exact av_den h h0
  | agg cs =>
    obtain ⟨vs, rfl, h⟩ := h
    simp [Sh.tmpl, AV.den, tmplL_den h hz]
theorem tmpls_den {zs : List Int} : ∀ {ss : List Sh} {vs : List Value} {ns : List Int} {j : Nat}, argsFit ss vs ns → (∀ i, i < ns.length → zs[j + i]? = ns[i]?) → denL (EZ zs) (tmpls j ss) = some vs
  | [], [], [], _, _, _ => rfl
  | s :: ss, v :: vs, ns, j, h, hz => by
    obtain ⟨n1, n2, rfl, h1, h2⟩ := h
    have hl := shfits_len h1
    have h3 := sh_den (zs := zs) (j := j) h1 fun i hi => by rw [hz i (by simp; omega), List.getElem?_append_left hi]
    have h4 := tmpls_den (zs := zs) (j := j + s.cs.length) h2 fun i hi => by
      have := hz (n1.length + i) (by simp; omega)
      rw [List.getElem?_append_right (by omega)] at this
      rw [← hl, Nat.add_assoc, this]; congr 1; omega
    simp only [tmpls, denL, h3, h4]
  | [], [], _ :: _, _, h, _ => h.elim
  | [], _ :: _, _, _, h, _ => h.elim
  | _ :: _, [], _, _, h, _ => h.elim

open Go.ChangeShapes Go.WideShapes Go.ChangeAt Go.RowKit
section
variable {P : Program}
noncomputable def ckOK (P : Program) (u : TypeId) : Ck → Bool
  | .i k => match P.underlying u with
    | some (.int k') => kbeq k' k
    | _ => false
  | .b => match P.underlying u with
    | some .bool => true
    | _ => false
theorem ck_fits {W : World} {r : Reach} {base : Nat} {u : TypeId} {v : Value} {c : Ck} (hc : ckOK P u c = true) (h : Cell.okWide P W r base u v) : ∃ n, c.fits v n := by
  cases c with
  | i k =>
    have hc : (match P.underlying u with | some (.int k') => kbeq k' k | _ => false) = true := hc
    split at hc
    · rename_i k' hu
      have hk := kbeq_eq hc
      subst hk
      unfold Cell.okWide at h
      rw [hu] at h
      have h' : Cell.ok P W r base u v := by cases v <;> exact h
      unfold Cell.ok at h'
      rw [hu] at h'
      cases v <;> first | exact h'.elim | skip
      rename_i k2 n
      obtain ⟨rfl, hh⟩ := h'
      exact ⟨n, rfl, by simpa [Lit.wf, IntKind.has] using hh⟩
    · cases hc
  | b =>
    have hc : (match P.underlying u with | some .bool => true | _ => false) = true := hc
    split at hc
    · rename_i hu
      unfold Cell.okWide at h
      rw [hu] at h
      have h' : Cell.ok P W r base u v := by cases v <;> exact h
      unfold Cell.ok at h'
      rw [hu] at h'
      cases v <;> first | exact h'.elim | skip
      rename_i b
      cases b
      · exact ⟨0, rfl⟩
      · exact ⟨1, rfl⟩
    · cases hc

noncomputable def aggOK (P : Program) (t : TypeId) (cs : List Ck) (ts : List TypeId) : Bool := Nat.beq (P.cellsOf t) cs.length && (Nat.beq ts.length cs.length && (ts.zip cs).all fun p => ckOK P p.1 p.2)
/-- A type's shape. -/
noncomputable def shOK (P : Program) (t : TypeId) : Sh → Bool
  | .one c => ckOK P t c
  | .agg cs => match P.underlying t, P.cellTypes P.depth t with
    | some (.struct _), some ts => aggOK P t cs ts
    | some (.array _ _), some ts => aggOK P t cs ts
    | _, _ => false
theorem fitL_of : ∀ {cs : List Ck} {vs : List Value}, cs.length = vs.length → (∀ (i : Nat) (c : Ck) (v : Value), cs[i]? = some c → vs[i]? = some v → ∃ n, c.fits v n) → ∃ ns, fitL cs vs ns
  | [], [], _, _ => ⟨[], trivial⟩
  | c :: cs, v :: vs, hl, h => by
    obtain ⟨n, hn⟩ := h 0 c v rfl rfl
    obtain ⟨ns, hns⟩ := fitL_of (cs := cs) (vs := vs) (by simpa using hl) fun i c v a b => h (i + 1) c v (by simpa using a) (by simpa using b)
    exact ⟨n :: ns, hn, hns⟩
  | [], _ :: _, hl, _ => by simp at hl
  | _ :: _, [], hl, _ => by simp at hl
theorem sh_fits {W : World} {base : Nat} {t : TypeId} {s : Sh} {v : Value} (hs : shOK P t s = true) (h : Value.okWide P W .any base t v) : ∃ ns, s.fits v ns := by
  cases s with
  | one c =>
    have hs : ckOK P t c = true := hs
    have h' : Cell.okWide P W .any base t v := by
      unfold ckOK at hs
      unfold Value.okWide at h
      cases c <;> simp only at hs <;> split at hs <;> first | (rename_i hu; rw [hu] at h; exact h) | cases hs
    obtain ⟨n, hn⟩ := ck_fits hs h'
    exact ⟨[n], n, rfl, hn⟩
  | agg cs =>
    change (match P.underlying t, P.cellTypes P.depth t with
      | some (.struct _), some ts => aggOK P t cs ts
      | some (.array _ _), some ts => aggOK P t cs ts
      | _, _ => false) = true at hs
    have key : ∃ ts, P.cellTypes P.depth t = some ts ∧ aggOK P t cs ts = true ∧ ∃ xs : Array Value, v = .agg xs ∧ xs.size = P.cellsOf t ∧ Row.okWide P W .any base t xs := by
      split at hs
      · rename_i fs ts hu hct
        unfold Value.okWide at h
        rw [hu] at h
        exact ⟨ts, hct, hs, h⟩
      · rename_i fs ts hu hct
        unfold Value.okWide at h
        rw [hu] at h
        exact ⟨ts, hct, hs, h⟩
      · cases hs
    obtain ⟨ts, hct, hs, vs, rfl, hsz, ts', hct', _, hcell⟩ := key
    rw [hct] at hct'
    cases hct'
    simp only [aggOK, Bool.and_eq_true, beq_iff, decide_eq_true_eq, List.all_eq_true] at hs
    obtain ⟨h1, h2, h3⟩ := hs
    obtain ⟨ns, hns⟩ := fitL_of (cs := cs) (vs := vs.toList) (by simp; omega) fun i c v hi hv => by
      have hlt := (List.getElem?_eq_some_iff.1 hi).1
      obtain ⟨u, hu1, hu2⟩ := hcell i v (by simpa using hv)
      rw [Nat.mod_eq_of_lt (by omega)] at hu1
      exact ck_fits (h3 (u, c) (List.mem_of_getElem? (i := i) (by rw [List.getElem?_zip_eq_some]; exact ⟨hu1, hi⟩))) hu2
    exact ⟨ns, vs.toList, by simp, hns⟩
theorem args_fits {W : World} {base : Nat} : ∀ {ts : List TypeId} {ss : List Sh} {vs : List Value}, ts.length = ss.length → vs.length = ts.length → (ts.zip ss).all (fun p => shOK P p.1 p.2) = true → (∀ (j : Nat) t v, ts[j]? = some t → vs[j]? = some v → Value.okWide P W .any base t v) → ∃ ns, argsFit ss vs ns
  | [], [], [], _, _, _, _ => ⟨[], trivial⟩
  | t :: ts, s :: ss, v :: vs, h1, h2, h3, h4 => by
    simp only [List.zip_cons_cons, List.all_cons, Bool.and_eq_true] at h3
    obtain ⟨n1, g1⟩ := sh_fits h3.1 (h4 0 t v rfl rfl)
    obtain ⟨n2, g2⟩ := args_fits (ts := ts) (ss := ss) (vs := vs) (by simpa using h1) (by simpa using h2) h3.2 fun j t v a b => h4 (j + 1) t v (by simpa using a) (by simpa using b)
    exact ⟨n1 ++ n2, n1, n2, rfl, g1, g2⟩
  | [], [], _ :: _, _, h, _, _ => by simp at h
  | [], _ :: _, _, h, _, _, _ => by simp at h
  | _ :: _, [], _, h, _, _, _ => by simp at h
  | _ :: _, _ :: _, [], _, h, _, _ => by simp at h
/-- A walk for whatever arguments. -/
theorem symb_calls {hm : P.follows .mixedOrders = true} {con : Tr Con} {glob : Tr (Tr AV)} {f : Nat} {ts : List TypeId} {ss : List Sh} {ls : Tr LSpec} (hg : Symb P hm con glob f (tmpls 0 ss) (ss.flatMap Sh.cs).length (facts 0 ss) ls) (hlen : ts.length = ss.length) (hsh : (ts.zip ss).all (fun p => shOK P p.1 p.2) = true)
    {W : World} {base : Nat} {args : Array Value} (hal : args.toList.length = ts.length) (hok : ∀ (j : Nat) t v, ts[j]? = some t → args[j]? = some v → Value.okWide P W .any base t v) (hgl : GlobOK glob W) (hcon : ∀ Θ, ConOK P hm con glob W Θ ls) :
    Calls P f args W fun e w' => e = .returned (.bool true) ∧ Below W.heap.size W w' := by
  obtain ⟨ns, hns⟩ := args_fits (P := P) (W := W) (base := base) hlen hal hsh fun j t v a b => hok j t v a (by simpa using b)
  obtain ⟨ws, hw⟩ := args_flat hns
  have := hg ns W args.toList (fitL_len hw) (factL_ok hw fun i _ => by simp) (tmpls_den hns fun i _ => by simp) hgl hcon
  simpa using this
end
end Go.Sy
/-! Contracts: what a function returns, shown by whatever way, taken as known. -/
namespace Go.Sy
open Go.RowKit (Below)
section
variable {X : Tabs} {K : Nat → Prop} {w0 : World} {E : Env} {st : St} {w w' : World} {Θ : Pred} {R : List Back}
/-- What a state says of a world, it says of one in which all that there was is as it was. -/
theorem StRel.grown (h : StRel X K w0 E st w) (hb : Kept (· < w.heap.size) w w') : StRel X K w0 E st w' := by
  have same : ∀ {i : Nat} {o : Obj}, w.heap[i]? = some o → w'.heap[i]? = some o := fun {i o} e => by
    have hi : i < w.heap.size := by
      rcases Nat.lt_or_ge i w.heap.size with c | c
      · exact c
      · rw [Array.getElem?_eq_none c] at e; cases e
    rw [hb.block i hi, e]
  have hk : Kept K w w' := ⟨hb.os, hb.tape, hb.output, hb.size, fun k hk => hb.block k (Nat.lt_of_lt_of_le (h.klt k hk) h.kept.size)⟩
  refine { h with kept := h.kept.trans hk, ids := fun k p e => ⟨(h.ids k p e).1, Nat.lt_of_lt_of_le (h.ids k p e).2 hb.size⟩, blks := fun k b e => ?_, objs := fun k o e => ?_ }
  · rcases h.blks k b e with h1 | ⟨id, sh, cs, el, fr, h1, h2, h3⟩
    · exact .inl h1
    · exact .inr ⟨id, sh, cs, el, fr, h1, same h2, h3⟩
  · obtain ⟨h1, h2 | ⟨id, ob, h2, h3, h4⟩⟩ := h.objs k o e
    · exact ⟨h1, .inl h2⟩
    · exact ⟨h1, .inr ⟨id, ob, h2, same h3, h4⟩⟩
theorem GlobOK.kept {glob : Tr (Tr AV)} (h : GlobOK glob w) (hk : Kept (· < w.heap.size) w w') : GlobOK glob w' := fun g t e => by
  obtain ⟨h1, h2⟩ := h g t e
  refine ⟨Nat.lt_of_lt_of_le h1 hk.size, fun i v hv => ?_⟩
  obtain ⟨x, h3, h4⟩ := h2 i v hv
  refine ⟨x, h3, ?_⟩
  have hb := hk.below.cell (p := ⟨g, i, none⟩) h1
  rw [hb]; exact h4
end

section
variable {P : Program} {hm : P.follows .mixedOrders = true} {glob : Tr (Tr AV)} {w0 : World} {Θ : Pred}
/-- A contract by a result that is known: by the arguments, and by what stands in memory. -/
noncomputable def conRes (g : List AV → St → Option AV) : Con := fun args st k => vbind (g args st) fun v => k v st
/-- What is asked of such a contract. -/
def ResOK (P : Program) (hm : P.follows .mixedOrders = true) (glob : Tr (Tr AV)) (w0 : World) (f : FuncId) (g : List AV → St → Option AV) : Prop :=
  ∀ (con : Tr Con) (ls : Tr LSpec) (ro : Tr (Tr AV)) (args : List AV) (st : St) (v : AV), g args st = some v → ∀ (E : Env) (w : World) (xs : List Value), StRel (tabs P hm con glob ls ro) (· < w0.heap.size) w0 E st w → denL E args = some xs →
    ∃ y, v.den E = some y ∧ Calls P f xs.toArray w fun e w' => e = .returned y ∧ Below w.heap.size w w'
/-- The same of a function without a text, that the model gives. -/
def ExtOK (P : Program) (f : FuncId) (g : List AV → St → Option AV) : Prop :=
  ∀ (args : List AV) (st : St) (v : AV), g args st = some v → ∀ (E : Env) (w : World) (xs : List Value), denL E args = some xs → ∃ y, v.den E = some y ∧ (callFunc f xs.toArray).run P w = .ok (.value y) w
def ConCl (P : Program) (hm : P.follows .mixedOrders = true) (glob : Tr (Tr AV)) (w0 : World) (f : FuncId) (c : Con) : Prop :=
  ∃ g, c = conRes g ∧ (ExtOK P f g ∨ hasFn P f = true ∧ ResOK P hm glob w0 f g)
/-- What is asked of one contract. -/
def ConAt (P : Program) (hm : P.follows .mixedOrders = true) (glob : Tr (Tr AV)) (w0 : World) (Θ : Pred) (ls : Tr LSpec) (ro : Tr (Tr AV)) (f : FuncId) (c : Con) : Prop :=
  ∀ (con : Tr Con) {args : List AV} {st : St} {k : Kt} {E : Env} {R : List Back} {w : World} {xs : List Value}, StRel (tabs P hm con glob ls ro) (· < w0.heap.size) w0 E st w → denL E args = some xs → (c args st k).holds Θ E.va R →
    OpRes P (Out (tabs P hm con glob ls ro) (· < w0.heap.size) w0 Θ R E st k) ((callFunc f xs.toArray).run P w)
theorem conOK_at {con : Tr Con} {ls : Tr LSpec} {ro : Tr (Tr AV)} (h : ∀ f c, con.get f = some c → ConAt P hm glob w0 Θ ls ro f c) : ConOK P hm con glob w0 Θ ls ro :=
  fun f c hc _ _ _ _ _ _ _ hS hx hh => h f c hc con hS hx hh
theorem conAt_set {con : Tr Con} {ls : Tr LSpec} {ro : Tr (Tr AV)} {f : FuncId} {c : Con} (hg : ConAt P hm glob w0 Θ ls ro f c) (h : ∀ f c, con.get f = some c → ConAt P hm glob w0 Θ ls ro f c) : ∀ f' c', (con.set f (some c)).get f' = some c' → ConAt P hm glob w0 Θ ls ro f' c' := by
  intro f' c' hc
  by_cases e : f' = f
  · subst e
    rw [Tr.get_set_same] at hc
    cases hc
    exact hg
  · rw [Tr.get_set_other _ _ (fun h => e h.symm)] at hc
    exact h f' c' hc
theorem conAt_nil {ls : Tr LSpec} {ro : Tr (Tr AV)} : ∀ (f : Nat) (c : Con), (Tr.nil : Tr Con).get f = some c → ConAt P hm glob w0 Θ ls ro f c := fun f c h => by simp at h
theorem ConCl.at {ls : Tr LSpec} {ro : Tr (Tr AV)} {f : FuncId} {c : Con} (h : ConCl P hm glob w0 f c) : ConAt P hm glob w0 Θ ls ro f c := by
  intro con args st k E R w xs hS hx hh
  obtain ⟨g, rfl, hg⟩ := h
  obtain ⟨v, hv, hh⟩ := vbind_inv hh
  rcases hg with hg | ⟨hfn, hg⟩
  · obtain ⟨y, hy, hr⟩ := hg args st v hv E w xs hx
    rw [hr]
    exact ⟨v, st, E, R, List.prefix_rfl, hh, .refl E, hS, .refl E st, hy⟩
  · obtain ⟨y, hy, hcl⟩ := hg con ls ro args st v hv E w xs hS hx
    obtain ⟨fn, g1, g2, g3⟩ := hasFn_inv hfn
    rw [callFunc_enter (P := P) g1 g2 g3]
    show CallsIn (FW none) 0 P f xs.toArray w _
    refine (callsIn_wide.2 hcl).mono fun e w' he => ?_
    obtain ⟨rfl, hb⟩ := he
    exact ⟨v, st, E, R, List.prefix_rfl, hh, .refl E, hS.grown (Kept.of_below hb), .refl E st, hy⟩
theorem conOK_of {con : Tr Con} {ls : Tr LSpec} {ro : Tr (Tr AV)} (h : ∀ f c, con.get f = some c → ConCl P hm glob w0 f c) : ConOK P hm con glob w0 Θ ls ro :=
  conOK_at fun f c hc => (h f c hc).at
theorem conCl_nil : ∀ (f : Nat) (c : Con), (Tr.nil : Tr Con).get f = some c → ConCl P hm glob w0 f c := fun f c h => by simp at h
theorem conCl_set {con : Tr Con} {f : FuncId} {c : Con} (hg : ConCl P hm glob w0 f c) (h : ∀ f c, con.get f = some c → ConCl P hm glob w0 f c) : ∀ f' c', (con.set f (some c)).get f' = some c' → ConCl P hm glob w0 f' c' := by
  intro f' c' hc
  by_cases e : f' = f
  · subst e
    rw [Tr.get_set_same] at hc
    cases hc
    exact hg
  · rw [Tr.get_set_other _ _ (fun h => e h.symm)] at hc
    exact h f' c' hc

/-! ### A function of nothing that returns what is known -/
noncomputable def isValK (v : AV) : Res → VC
  | .val x _ => bif_ (AV.same x v) .ok .bad
  | _ => .bad
noncomputable def constG (v : AV) : List AV → St → Option AV
  | [], _ => some v
  | _, _ => none
theorem res_const {con : Tr Con} {ls : Tr LSpec} {n f : Nat} {v : AV} (h : (runX P con glob n (.call f []) (isValK v) ls).triv = true) (hfn : hasFn P f = true) (hv : ∃ y, ∀ E, v.den E = some y) (hg : GlobOK glob w0)
    (hcon : ∀ w, Kept (· < w0.heap.size) w0 w → ConOK P hm con glob w (fun _ _ => True) ls) : ResOK P hm glob w0 f (constG v) := by
  intro con' ls' ro' args st v' ha E w xs hS hx
  unfold constG at ha
  split at ha
  · cases ha
    obtain ⟨y, hy⟩ := hv
    have hxs := denL_nil.1 hx
    subst hxs
    refine ⟨y, hy E, (calls_of_run hm (hg.kept hS.kept) (hcon w hS.kept) (triv_holds h) hfn).mono fun e w' ⟨r, he, ho⟩ => ?_⟩
    obtain ⟨v', st', E', R', _, h2, _, h4, _, h6⟩ := ho
    have h2 : (bif_ (AV.same v' v) .ok .bad : VC).holds (fun _ _ => True) E'.va R' := h2
    cases e2 : AV.same v' v with
    | false => rw [e2] at h2; exact h2.elim
    | true =>
      rw [same_eq _ _ e2, hy E'] at h6
      cases h6
      exact ⟨he, Kept.below h4.kept⟩
  · cases ha
end
end Go.Sy
/-! Contracts of functions of bytes: what is returned hangs on the bytes alone, memory stays. -/
namespace Go.Sy
open Go.RowKit (Below)
/-- Of whatever bytes, in whatever memory, the function returns F of them; what was there stays as it was. -/
def BytesSpec (P : Program) (f : FuncId) (F : List Nat → AV) : Prop :=
  ∀ (w : World) (ad : Option Addr) (n c : Nat) (l : List Nat), n ≤ c → l.length = n → (∀ m ∈ l, m < 256) →
    (match ad with
      | none => n = 0 ∧ c = 0
      | some a => ∀ (i m : Nat), l[i]? = some m → w.cell? (a.add i) = some (.int .u8 m)) →
    ∃ y, (∀ E, (F l).den E = some y) ∧ Calls P f #[.slice ad n c] w fun e w' => e = .returned y ∧ Below w.heap.size w w'
noncomputable def cxG (glob : Tr (Tr AV)) : Cx := { eqm := .nil, und := .nil, size := .nil, zero := .nil, fns := .nil, glob := glob, con := .nil }
theorem cellsFrom_cxG {P : Program} {hm : P.follows .mixedOrders = true} {con : Tr Con} {glob : Tr (Tr AV)} {ls : Tr LSpec} {ro : Tr (Tr AV)} {st : St} {n off : Nat} {b : Bid} {l : List AV} (h : cellsFrom (cxG glob) st n off b = some l) : cellsFrom (tabs P hm con glob ls ro).cx st n off b = some l := by
  cases b with
  | g n => exact h
  | r n => exact h
  | a n => obtain ⟨t, ht, _⟩ := obind_inv h; simp [cxG] at ht
noncomputable def bytesG (glob : Tr (Tr AV)) (F : List Nat → AV) : List AV → St → Option AV
  | [.slice none _ _], _ => some (F [])
  | [.sl0 ..], _ => some (F [])
  | [.slice (some a) n _], st => obind (cellsFrom (cxG glob) st n a.off a.b) fun l => obind (cellNats l) fun l => some (F l)
  | _, _ => none
section
variable {P : Program} {hm : P.follows .mixedOrders = true} {glob : Tr (Tr AV)} {w0 : World}
theorem res_bytes {f : FuncId} {F : List Nat → AV} (hg : GlobOK glob w0) (h : BytesSpec P f F) : ResOK P hm glob w0 f (bytesG glob F) := by
  intro con ls ro args st v ha E w xs hS hx
  unfold bytesG at ha
  split at ha
  · cases ha
    obtain ⟨x, xs', h1, h2, rfl⟩ := denL_cons.1 hx
    rw [denL_nil.1 h2]
    rename_i n c
    cases c with
    | k c =>
      have h1 : (if n = 0 ∧ c = 0 then some (Value.slice none 0 0) else none) = some x := by simpa [AV.den] using h1
      split at h1
      · cases h1
        obtain ⟨y, h3, h4⟩ := h w none 0 0 [] (Nat.le_refl _) rfl (by simp) ⟨rfl, rfl⟩
        exact ⟨y, h3 E, h4⟩
      · cases h1
    | u i s => simp [AV.den] at h1
    | t c => simp [AV.den] at h1
  · cases ha
    rename_i a i n d
    obtain ⟨x, xs', h1, h2, rfl⟩ := denL_cons.1 hx
    rw [denL_nil.1 h2]
    simp only [AV.den] at h1
    split at h1
    · rename_i x' c h5 h6
      split at h1
      · cases h1
        obtain ⟨y, h3, h4⟩ := h w (some (if c = n then x' else x'.add d)) 0 (c - n) [] (Nat.zero_le _) rfl (by simp) (fun i m hi => by simp at hi)
        exact ⟨y, h3 E, h4⟩
      · cases h1
    · cases h1
  · rename_i a n c
    obtain ⟨l, hl, ha⟩ := obind_inv ha
    obtain ⟨ns, hns, ha⟩ := obind_inv ha
    cases ha
    obtain ⟨x, xs', h1, h2, rfl⟩ := denL_cons.1 hx
    rw [denL_nil.1 h2]
    simp only [AV.den] at h1
    split at h1
    · rename_i x' c' h5 h6
      split at h1
      · rename_i hle
        cases h1
        have hl' : cellsFrom (tabs P hm con glob ls ro).cx st n a.off a.b = some l := cellsFrom_cxG hl
        obtain ⟨ys, g1, g2, _, g4⟩ := cells_sound (cxOf_ok P hm con hg) hS hl' (ad := x') h5
        rw [cellNats_inv hns] at g1
        obtain ⟨k1, k2⟩ := bytes_lt g1
        subst k2
        obtain ⟨y, h3, h4⟩ := h w (some x') n c' ns hle (by simpa using g2) k1 (fun i m hi => g4 i _ (by simp [hi]))
        exact ⟨y, h3 E, h4⟩
      · cases h1
    · cases h1
  · cases ha
end
end Go.Sy
/-! Contracts of functions without a text. -/
namespace Go.Sy
open Go.Proofs (sub64Entry run_sub64)
noncomputable def sub64G : List AV → St → Option AV
  | [.int .u64 x, .int .u64 y, .int .u64 b], _ => bif_ (Nat.ble b 1) (some (.tuple [.int .u64 (Nat.mod (Nat.sub (Nat.sub (Nat.add x 18446744073709551616) y) b) 18446744073709551616), .int .u64 (bif_ (Nat.blt x (Nat.add y b)) 1 0)])) none
  | _, _ => none
theorem den_u64 {E : Env} {x : Nat} (h : x < 18446744073709551616) : AV.den E (.int .u64 x) = some (.int .u64 (x : Int)) := by
  rw [den_int_of (k := .u64) h, sgn_nat .u64 h]
theorem den_u64_inv {E : Env} {x : Nat} {v : Value} (h : AV.den E (.int .u64 x) = some v) : x < 18446744073709551616 ∧ v = .int .u64 (x : Int) := by
  obtain ⟨h1, rfl⟩ := den_int h
  exact ⟨h1, by rw [sgn_nat .u64 h1]⟩
theorem sub64_ok {P : Program} {f : FuncId} {fn : Func} (hf : P.funcs[f]? = some fn) (hname : (fn.name == "runtime.NumGoroutine") = false) (hb : fn.body.isNone = true) (hn : Extern.findNext fn = none) (he : Extern.find fn = some sub64Entry) : ExtOK P f sub64G := by
  intro args st v ha E w xs hx
  unfold sub64G at ha
  split at ha
  · rename_i x y b
    obtain ⟨hb1, ha⟩ := bif_some ha
    cases ha
    obtain ⟨v1, r1, h1, hr1, rfl⟩ := denL_cons.1 hx
    obtain ⟨v2, r2, h2, hr2, rfl⟩ := denL_cons.1 hr1
    obtain ⟨v3, r3, h3, hr3, rfl⟩ := denL_cons.1 hr2
    rw [denL_nil.1 hr3]
    obtain ⟨l1, rfl⟩ := den_u64_inv h1
    obtain ⟨l2, rfl⟩ := den_u64_inv h2
    obtain ⟨l3, rfl⟩ := den_u64_inv h3
    have hb1 : b ≤ 1 := Nat.le_of_ble_eq_true hb1
    refine ⟨_, ?_, by
      rw [run_callFunc_extern hf hname hb hn he]
      rw [show ([Value.int .u64 (x : Int), .int .u64 (y : Int), .int .u64 (b : Int)].toArray) = #[.int .u64 (x : Int), .int .u64 (y : Int), .int .u64 (b : Int)] from rfl, run_sub64 x y b hb1]
      rfl⟩
    have e1 : bif_ (Nat.blt x (Nat.add y b)) 1 0 = (if x < y + b then 1 else 0 : Nat) := by
      cases c : Nat.blt x (Nat.add y b) with
      | true =>
        rw [Nat.blt_eq] at c
        rw [if_pos (show x < y + b from c)]; rfl
      | false =>
        have c' : ¬ x < y + b := fun h => by
          have : Nat.blt x (Nat.add y b) = true := by rw [Nat.blt_eq]; exact h
          rw [this] at c; cases c
        rw [if_neg c']; rfl
    rw [e1]
    have d1 : AV.den E (.int .u64 (Nat.mod (Nat.sub (Nat.sub (Nat.add x 18446744073709551616) y) b) 18446744073709551616)) = some (.int .u64 (((x + 18446744073709551616 - y - b) % 18446744073709551616 : Nat) : Int)) := den_u64 (Nat.mod_lt _ (by decide))
    have d2 : AV.den E (.int .u64 (if x < y + b then 1 else 0 : Nat)) = some (.int .u64 ((if x < y + b then 1 else 0 : Nat) : Int)) := den_u64 (by split <;> decide)
    rw [AV.den, denL, d1, denL, d2, denL]
    rfl
  · cases ha
end Go.Sy
/-! SHA-256's press, as words of numbers: what a row of names' equations comes to. -/
namespace Go.Sy
namespace Sha
/-- A term that stands for a word. -/
def Nv (ρ : Va) (t : T) (n : Nat) : Prop := t.ev ρ = some (.i (n : Int)) ∧ n < 4294967296
section
variable {ρ : Va} {x y : T} {a b : Nat}
theorem wrap_u32 (n : Nat) : IntKind.u32.wrap (n : Int) = ((n % 4294967296 : Nat) : Int) := by
  simp [IntKind.wrap, IntKind.signed, IntKind.bits]
theorem Nv.z {n : Nat} (h : n < 4294967296) : Nv ρ (.z (n : Int)) n := ⟨rfl, h⟩
theorem Nv.add (hx : Nv ρ x a) (hy : Nv ρ y b) : Nv ρ (.bin .add .u32 x y) (addN a b) := by
  refine ⟨?_, Nat.mod_lt _ (by decide)⟩
  simp only [T.ev, hx.1, hy.1, zar, Option.map_some]
  rw [show (a : Int) + b = ((a + b : Nat) : Int) by omega, wrap_u32]; rfl
theorem ofInt_nat (n : Nat) : BitVec.ofInt 32 (n : Int) = BitVec.ofNat 32 n := by
  apply BitVec.eq_of_toNat_eq; simp
theorem bv_and {a b : Nat} (ha : a < 4294967296) (hb : b < 4294967296) : (BitVec.ofInt IntKind.u32.bits (a : Int) &&& BitVec.ofInt IntKind.u32.bits (b : Int)).toNat = a &&& b := by
  show (BitVec.ofInt 32 (a : Int) &&& BitVec.ofInt 32 (b : Int)).toNat = a &&& b
  rw [ofInt_nat, ofInt_nat, BitVec.toNat_and, BitVec.toNat_ofNat, BitVec.toNat_ofNat, Nat.mod_eq_of_lt (b := 2 ^ 32) ha, Nat.mod_eq_of_lt (b := 2 ^ 32) hb]
theorem bv_or {a b : Nat} (ha : a < 4294967296) (hb : b < 4294967296) : (BitVec.ofInt IntKind.u32.bits (a : Int) ||| BitVec.ofInt IntKind.u32.bits (b : Int)).toNat = a ||| b := by
  show (BitVec.ofInt 32 (a : Int) ||| BitVec.ofInt 32 (b : Int)).toNat = a ||| b
  rw [ofInt_nat, ofInt_nat, BitVec.toNat_or, BitVec.toNat_ofNat, BitVec.toNat_ofNat, Nat.mod_eq_of_lt (b := 2 ^ 32) ha, Nat.mod_eq_of_lt (b := 2 ^ 32) hb]
theorem bv_xor {a b : Nat} (ha : a < 4294967296) (hb : b < 4294967296) : (BitVec.ofInt IntKind.u32.bits (a : Int) ^^^ BitVec.ofInt IntKind.u32.bits (b : Int)).toNat = a ^^^ b := by
  show (BitVec.ofInt 32 (a : Int) ^^^ BitVec.ofInt 32 (b : Int)).toNat = a ^^^ b
  rw [ofInt_nat, ofInt_nat, BitVec.toNat_xor, BitVec.toNat_ofNat, BitVec.toNat_ofNat, Nat.mod_eq_of_lt (b := 2 ^ 32) ha, Nat.mod_eq_of_lt (b := 2 ^ 32) hb]
theorem Nv.and (hx : Nv ρ x a) (hy : Nv ρ y b) : Nv ρ (.bin .and .u32 x y) (Nat.land a b) := by
  have hlt : a &&& b < 4294967296 := Nat.lt_of_le_of_lt Nat.and_le_left hx.2
  refine ⟨?_, hlt⟩
  simp only [T.ev, hx.1, hy.1, zar, Option.map_some]
  rw [bv_and hx.2 hy.2, wrap_u32, Nat.mod_eq_of_lt hlt]; rfl
theorem Nv.or (hx : Nv ρ x a) (hy : Nv ρ y b) : Nv ρ (.bin .or .u32 x y) (Nat.lor a b) := by
  have hlt : a ||| b < 4294967296 := Nat.or_lt_two_pow (n := 32) hx.2 hy.2
  refine ⟨?_, hlt⟩
  simp only [T.ev, hx.1, hy.1, zar, Option.map_some]
  rw [bv_or hx.2 hy.2, wrap_u32, Nat.mod_eq_of_lt hlt]; rfl
theorem Nv.xor (hx : Nv ρ x a) (hy : Nv ρ y b) : Nv ρ (.bin .xor .u32 x y) (Nat.xor a b) := by
  have hlt : a ^^^ b < 4294967296 := Nat.xor_lt_two_pow (n := 32) hx.2 hy.2
  refine ⟨?_, hlt⟩
  simp only [T.ev, hx.1, hy.1, zar, Option.map_some]
  rw [bv_xor hx.2 hy.2, wrap_u32, Nat.mod_eq_of_lt hlt]; rfl
theorem Nv.shl (hx : Nv ρ x a) (n : Nat) (hn : n ≤ 32) : Nv ρ (.bin .shl .u32 x (.z (n : Int))) (Nat.mod (Nat.shiftLeft a n) 4294967296) := by
  refine ⟨?_, Nat.mod_lt _ (by decide)⟩
  simp only [T.ev, hx.1, zar, IntKind.bits]
  rw [if_neg (by omega), show ((n : Int).toNat) = n by simp, Nat.min_eq_left hn, Option.map_some]
  rw [show (a : Int) * 2 ^ n = ((a <<< n : Nat) : Int) by rw [Nat.shiftLeft_eq]; push_cast; rfl, wrap_u32]; rfl
theorem Nv.shr (hx : Nv ρ x a) (n : Nat) (hn : n ≤ 32) : Nv ρ (.bin .shr .u32 x (.z (n : Int))) (Nat.shiftRight a n) := by
  have hlt : a >>> n < 4294967296 := Nat.lt_of_le_of_lt (Nat.shiftRight_le a n) hx.2
  refine ⟨?_, hlt⟩
  simp only [T.ev, hx.1, zar, IntKind.bits]
  rw [if_neg (by omega), show ((n : Int).toNat) = n by simp, Nat.min_eq_left hn, Option.map_some]
  rw [show (2 : Int) ^ n = ((2 ^ n : Nat) : Int) by push_cast; rfl]
  have : (a : Int).fdiv ((2 ^ n : Nat) : Int) = ((a / 2 ^ n : Nat) : Int) := by
    rw [Int.fdiv_eq_ediv_of_nonneg _ (Int.natCast_nonneg _)]; rfl
  rw [this, ← Nat.shiftRight_eq_div_pow]; rfl
theorem Nv.conv (hx : x.ev ρ = some (.i (a : Int))) (ha : a < 256) : Nv ρ (.conv .u32 x) a := by
  refine ⟨?_, by omega⟩
  simp only [T.ev, hx]
  rw [wrap_u32, Nat.mod_eq_of_lt (by omega)]
theorem Nv.cast (h : Nv ρ x a) (e : a = b) : Nv ρ x b := e ▸ h
end
/-- A way to write the words of a press. -/
structure Way where
  w0 : T → T → T → T → T
  w1 : T → T → T → T → T
  x : T → T → T → T → Nat → T → T
  y : T → T → T → T
structure Way.OK (W : Way) : Prop where
  w0 : ∀ {ρ : Va} {ta tb tc td : T} {a b c d : Nat}, ta.ev ρ = some (.i (a : Int)) → tb.ev ρ = some (.i (b : Int)) → tc.ev ρ = some (.i (c : Int)) → td.ev ρ = some (.i (d : Int)) → a < 256 → b < 256 → c < 256 → d < 256 → Nv ρ (W.w0 ta tb tc td) (w0N a b c d)
  w1 : ∀ {ρ : Va} {ta tb tc td : T} {a b c d : Nat}, Nv ρ ta a → Nv ρ tb b → Nv ρ tc c → Nv ρ td d → Nv ρ (W.w1 ta tb tc td) (w1N a b c d)
  x : ∀ {ρ : Va} {th te tf tg tw : T} {h e f g k w : Nat}, Nv ρ th h → Nv ρ te e → Nv ρ tf f → Nv ρ tg g → k < 4294967296 → Nv ρ tw w → Nv ρ (W.x th te tf tg k tw) (xN h e f g k w)
  y : ∀ {ρ : Va} {ta tb tc : T} {a b c : Nat}, Nv ρ ta a → Nv ρ tb b → Nv ρ tc c → Nv ρ (W.y ta tb tc) (yN a b c)

/-! ### The numbers of names -/
def aI : Nat → Nat
  | 0 => 3 | 1 => 2 | 2 => 1 | 3 => 0 | t + 4 => 136 + 2 * t
def eI : Nat → Nat
  | 0 => 7 | 1 => 6 | 2 => 5 | 3 => 4 | t + 4 => 137 + 2 * t
def eqT (i : Nat) (t : T) : T := .cmp .eql (.zv i) t
def wEq (W : Way) (i : Nat) : T := eqT (72 + i) (W.w0 (.zv (8 + 4 * i)) (.zv (9 + 4 * i)) (.zv (10 + 4 * i)) (.zv (11 + 4 * i)))
/-- Word 16 + i. -/
def wEq2 (W : Way) (i : Nat) : T := eqT (88 + i) (W.w1 (.zv (72 + i)) (.zv (73 + i)) (.zv (81 + i)) (.zv (86 + i)))
def xT (W : Way) (ks : Nat → Nat) (t : Nat) : T := W.x (.zv (eI t)) (.zv (eI (t + 3))) (.zv (eI (t + 2))) (.zv (eI (t + 1))) (ks t) (.zv (72 + t))
def rA (W : Way) (ks : Nat → Nat) (t : Nat) : T := eqT (aI (t + 4)) (.bin .add .u32 (xT W ks t) (W.y (.zv (aI (t + 3))) (.zv (aI (t + 2))) (.zv (aI (t + 1)))))
def rE (W : Way) (ks : Nat → Nat) (t : Nat) : T := eqT (eI (t + 4)) (.bin .add .u32 (.zv (aI t)) (xT W ks t))
structure Chain (W : Way) (ks : Nat → Nat) (l : List T) : Prop where
  w : ∀ i, i < 16 → wEq W i ∈ l
  w2 : ∀ i, i < 48 → wEq2 W i ∈ l
  a : ∀ t, t < 64 → rA W ks t ∈ l
  e : ∀ t, t < 64 → rE W ks t ∈ l
noncomputable def chW1 (W : Way) (n : Nat) : List T := Nat.rec (motive := fun _ => List T) [] (fun i ih => wEq W i :: ih) n
noncomputable def chW2 (W : Way) (n : Nat) : List T := Nat.rec (motive := fun _ => List T) (chW1 W 16) (fun i ih => wEq2 W i :: ih) n
noncomputable def chR (W : Way) (ks : Nat → Nat) (n : Nat) : List T := Nat.rec (motive := fun _ => List T) (chW2 W 48) (fun i ih => rE W ks i :: rA W ks i :: ih) n
theorem mem_chW1 (W : Way) : ∀ {n i : Nat}, i < n → wEq W i ∈ chW1 W n
  | n + 1, i, h => by
    show _ ∈ wEq W n :: chW1 W n
    by_cases e : i = n
    · rw [e]; exact List.mem_cons_self ..
    · exact List.mem_cons_of_mem _ (mem_chW1 W (by omega))
theorem sub_chW2 (W : Way) {c : T} : ∀ {n : Nat}, c ∈ chW1 W 16 → c ∈ chW2 W n
  | 0, h => h
  | n + 1, h => List.mem_cons_of_mem _ (sub_chW2 W (n := n) h)
theorem mem_chW2 (W : Way) : ∀ {n i : Nat}, i < n → wEq2 W i ∈ chW2 W n
  | n + 1, i, h => by
    show _ ∈ wEq2 W n :: chW2 W n
    by_cases e : i = n
    · rw [e]; exact List.mem_cons_self ..
    · exact List.mem_cons_of_mem _ (mem_chW2 W (by omega))
theorem sub_chR (W : Way) (ks : Nat → Nat) {c : T} : ∀ {n : Nat}, c ∈ chW2 W 48 → c ∈ chR W ks n
  | 0, h => h
  | n + 1, h => List.mem_cons_of_mem _ (List.mem_cons_of_mem _ (sub_chR W ks (n := n) h))
theorem mem_chR (W : Way) (ks : Nat → Nat) : ∀ {n i : Nat}, i < n → rA W ks i ∈ chR W ks n ∧ rE W ks i ∈ chR W ks n
  | n + 1, i, h => by
    show _ ∈ rE W ks n :: rA W ks n :: chR W ks n ∧ _ ∈ rE W ks n :: rA W ks n :: chR W ks n
    by_cases e : i = n
    · rw [e]; exact ⟨by simp, by simp⟩
    · have := mem_chR W ks (n := n) (i := i) (by omega)
      exact ⟨List.mem_cons_of_mem _ (List.mem_cons_of_mem _ this.1), List.mem_cons_of_mem _ (List.mem_cons_of_mem _ this.2)⟩
theorem chain_chR (W : Way) (ks : Nat → Nat) : Chain W ks (chR W ks 64) :=
  ⟨fun _ h => sub_chR W ks (sub_chW2 W (mem_chW1 W h)), fun _ h => sub_chR W ks (mem_chW2 W h), fun _ h => (mem_chR W ks h).1, fun _ h => (mem_chR W ks h).2⟩

/-! ### What they come to -/
theorem wsN_succ (n : Nat) (l : List Nat) : wsN (n + 1) l = wsN n (w1N (getD0 l 15) (getD0 l 14) (getD0 l 6) (getD0 l 1) :: l) := by
  show natK (w1N (getD0 l 15) (getD0 l 14) (getD0 l 6) (getD0 l 1)) (fun x => wsN n (x :: l)) = _; rw [natK_eq]
theorem getD0_eq (l : List Nat) (i : Nat) : getD0 l i = l.getD i 0 := by
  unfold getD0; rw [getL_eq]; rw [List.getD_eq_getElem?_getD]; cases l[i]? <;> rfl
/-- The first of a row's names are the row's, the newest first. -/
def Ws (ρ : Va) (base : Nat) (l : List Nat) : Prop := ∀ j (h : j < l.length), Nv ρ (.zv (base + j)) (l[l.length - 1 - j]'(by omega))
theorem eqT_val {ρ : Va} {i : Nat} {t : T} {n : Nat} (h : (eqT i t).ev ρ = some (.b true)) (ht : Nv ρ t n) : Nv ρ (.zv i) n := by
  obtain ⟨p, q, h1, h2, h3⟩ := cmp_inv h
  rw [ht.1] at h2; cases h2
  simp only [zcm, Option.some.injEq, decide_eq_true_eq] at h3
  subst h3
  exact ⟨h1, ht.2⟩
theorem Ws.cons {ρ : Va} {base : Nat} {l : List Nat} {x : Nat} (h : Ws ρ base l) (hx : Nv ρ (.zv (base + l.length)) x) : Ws ρ base (x :: l) := by
  intro j hj
  simp only [List.length_cons] at hj ⊢
  by_cases e : j = l.length
  · subst e
    have e0 : l.length + 1 - 1 - l.length = 0 := by omega
    simp only [e0, List.getElem_cons_zero]; exact hx
  · have hj' : j < l.length := by omega
    have := h j hj'
    have e2 : l.length + 1 - 1 - j = (l.length - 1 - j) + 1 := by omega
    simp only [e2, List.getElem_cons_succ]; exact this
theorem Ws.at {ρ : Va} {base : Nat} {l : List Nat} (h : Ws ρ base l) {j : Nat} (hj : j < l.length) : Nv ρ (.zv (base + (l.length - 1 - j))) (getD0 l j) := by
  have := h (l.length - 1 - j) (by omega)
  have e : l.length - 1 - (l.length - 1 - j) = j := by omega
  rw [getD0_eq]
  simp only [e] at this
  simpa [List.getD_eq_getElem?_getD, hj] using this
section
variable {W : Way} (hW : W.OK) {ks : Nat → Nat} (hks : ∀ t, t < 64 → ks t < 4294967296) {nm : List T} (hc : Chain W ks nm) {ρ : Va} (hf : FOK ρ nm)
include hW hc hf
theorem ws_all : ∀ (n i : Nat) (l : List Nat), i + n = 48 → l.length = 16 + i → Ws ρ 72 l → Ws ρ 72 (wsN n l) ∧ (wsN n l).length = 64
  | 0, i, l, hn, hl, h => ⟨h, by show l.length = 64; omega⟩
  | n + 1, i, l, hn, hl, h => by
    rw [wsN_succ]
    refine ws_all n (i + 1) _ (by omega) (by simp; omega) (h.cons ?_)
    have he := hf _ (hc.w2 i (by omega))
    have h15 := h.at (j := 15) (by omega)
    have h14 := h.at (j := 14) (by omega)
    have h6 := h.at (j := 6) (by omega)
    have h1 := h.at (j := 1) (by omega)
    rw [hl] at h15 h14 h6 h1 ⊢
    rw [show 72 + (16 + i - 1 - 15) = 72 + i by omega] at h15
    rw [show 72 + (16 + i - 1 - 14) = 73 + i by omega] at h14
    rw [show 72 + (16 + i - 1 - 6) = 81 + i by omega] at h6
    rw [show 72 + (16 + i - 1 - 1) = 86 + i by omega] at h1
    have := eqT_val he (hW.w1 h15 h14 h6 h1)
    rw [show 72 + (16 + i) = 88 + i by omega]; exact this
theorem w0s_all : ∀ (n i : Nat) (bs acc : List Nat), i + n = 16 → bs.length = 4 * n → acc.length = i → (∀ j (h : j < bs.length), ρ.z[8 + 4 * i + j]? = some ((bs[j] : Nat) : Int) ∧ bs[j] < 256) → Ws ρ 72 acc →
    Ws ρ 72 (w0sN n bs acc) ∧ (w0sN n bs acc).length = 16
  | 0, i, bs, acc, hn, hb, ha, h, hs => ⟨hs, by show acc.length = 16; omega⟩
  | n + 1, i, a :: b :: c :: d :: r, acc, hn, hb, ha, h, hs => by
    have e : w0sN (n + 1) (a :: b :: c :: d :: r) acc = w0sN n r (w0N a b c d :: acc) := by
      rw [w0sN, natK_eq]
    rw [e]
    have h0 := h 0 (by simp)
    have h1 := h 1 (by simp)
    have h2 := h 2 (by simp)
    have h3 := h 3 (by simp)
    refine w0s_all n (i + 1) r _ (by omega) (by simp at hb; omega) (by simp [ha]) (fun j hj => ?_) (hs.cons ?_)
    · have := h (j + 4) (by simp; omega)
      rw [show 8 + 4 * (i + 1) + j = 8 + 4 * i + (j + 4) by omega]
      simpa using this
    · have he := hf _ (hc.w i (by omega))
      rw [ha]
      refine eqT_val he (hW.w0 ?_ ?_ ?_ ?_ h0.2 h1.2 h2.2 h3.2)
      · simp only [T.ev]; rw [show 8 + 4 * i = 8 + 4 * i + 0 by omega, h0.1]; rfl
      · simp only [T.ev]; rw [show 9 + 4 * i = 8 + 4 * i + 1 by omega, h1.1]; rfl
      · simp only [T.ev]; rw [show 10 + 4 * i = 8 + 4 * i + 2 by omega, h2.1]; rfl
      · simp only [T.ev]; rw [show 11 + 4 * i = 8 + 4 * i + 3 by omega, h3.1]; rfl
  | n + 1, i, [], acc, hn, hb, _, _, _ => by simp at hb
  | n + 1, i, [_], acc, hn, hb, _, _, _ => by simp at hb; omega
  | n + 1, i, [_, _], acc, hn, hb, _, _, _ => by simp at hb; omega
  | n + 1, i, [_, _, _], acc, hn, hb, _, _, _ => by simp at hb; omega
omit hW hc hf in
theorem natK3 {β : Type} (n : Nat) (k : Nat → β) : natK n k = k n := natK_eq n k
end
/-! ### The rounds -/
theorem rndsN_cons (p : Nat × Nat) (kw : List (Nat × Nat)) (a b c d e f g h : Nat) (k) : rndsN (p :: kw) a b c d e f g h k = rndsN kw (addN (xN h e f g p.1 p.2) (yN a b c)) a b c (addN d (xN h e f g p.1 p.2)) e f g k := by
  show natK (xN h e f g p.1 p.2) (fun x => natK (addN x (yN a b c)) fun a' => natK (addN d x) fun e' => rndsN kw a' a b c e' e f g k) = _; rw [natK_eq, natK_eq, natK_eq]
structure Regs (ρ : Va) (t a b c d e f g h : Nat) : Prop where
  a : Nv ρ (.zv (aI (t + 3))) a
  b : Nv ρ (.zv (aI (t + 2))) b
  c : Nv ρ (.zv (aI (t + 1))) c
  d : Nv ρ (.zv (aI t)) d
  e : Nv ρ (.zv (eI (t + 3))) e
  f : Nv ρ (.zv (eI (t + 2))) f
  g : Nv ρ (.zv (eI (t + 1))) g
  h : Nv ρ (.zv (eI t)) h
theorem fin8_eq (l : List Nat) (k : List Nat → List Nat) : fin8 l k = k l := by
  induction l generalizing k with
  | nil => rfl
  | cons x l ih => show natK x (fun x => fin8 l fun r => k (x :: r)) = _; rw [natK_eq]; exact ih _
def outT (i : Nat) : T := .bin .add .u32 (.zv i) (.zv (match i with | 0 => 262 | 1 => 260 | 2 => 258 | 3 => 256 | 4 => 263 | 5 => 261 | 6 => 259 | _ => 257))
section
variable {W : Way} (hW : W.OK) {ks : Nat → Nat} (hks : ∀ t, t < 64 → ks t < 4294967296) {nm : List T} (hc : Chain W ks nm) {ρ : Va} (hf : FOK ρ nm)
include hW hks hc hf
theorem rnds_all : ∀ (kw : List (Nat × Nat)) (t a b c d e f g h : Nat) (k : Nat → Nat → Nat → Nat → Nat → Nat → Nat → Nat → List Nat), t + kw.length = 64 → (∀ j (hj : j < kw.length), (kw[j]).1 = ks (t + j) ∧ Nv ρ (.zv (72 + (t + j))) (kw[j]).2) → Regs ρ t a b c d e f g h →
    ∃ a' b' c' d' e' f' g' h', Regs ρ 64 a' b' c' d' e' f' g' h' ∧ rndsN kw a b c d e f g h k = k a' b' c' d' e' f' g' h'
  | [], t, a, b, c, d, e, f, g, h, k, hl, _, hr => by
    have : t = 64 := by simpa using hl
    subst this
    exact ⟨a, b, c, d, e, f, g, h, hr, rfl⟩
  | p :: kw, t, a, b, c, d, e, f, g, h, k, hl, hp, hr => by
    have ht : t < 64 := by simp at hl; omega
    have hp0 := hp 0 (by simp)
    simp only [List.getElem_cons_zero, Nat.add_zero] at hp0
    rw [rndsN_cons]
    have hx : Nv ρ (xT W ks t) (xN h e f g p.1 p.2) := by
      rw [hp0.1]
      exact hW.x hr.h hr.e hr.f hr.g (hks t ht) hp0.2
    have ha := eqT_val (hf _ (hc.a t ht)) (hx.add (hW.y hr.a hr.b hr.c))
    have he := eqT_val (hf _ (hc.e t ht)) (hr.d.add hx)
    refine rnds_all kw (t + 1) _ _ _ _ _ _ _ _ k (by simp at hl; omega) (fun j hj => ?_) ⟨ha, ?_, ?_, ?_, he, ?_, ?_, ?_⟩
    · have := hp (j + 1) (by simpa using hj)
      rw [show t + 1 + j = t + (j + 1) by omega]
      simpa using this
    · exact hr.a
    · exact hr.b
    · exact hr.c
    · exact hr.e
    · exact hr.f
    · exact hr.g
theorem press_all {s bs : List Nat} (hs : s.length = 8) (hb : bs.length = 64) (hsz : ∀ i (h : i < s.length), ρ.z[i]? = some ((s[i] : Nat) : Int) ∧ s[i] < 4294967296) (hbz : ∀ i (h : i < bs.length), ρ.z[8 + i]? = some ((bs[i] : Nat) : Int) ∧ bs[i] < 256) {kl : List Nat} (hkl : kl = (List.range 64).map ks) :
    (pressN kl s bs).length = 8 ∧ ∀ i (h : i < (pressN kl s bs).length), Nv ρ (outT i) ((pressN kl s bs)[i]) := by
  obtain ⟨g1, g2⟩ := w0s_all hW hc hf 16 0 bs [] (by omega) (by omega) rfl (fun j hj => by simpa using hbz j hj) (fun j hj => by simp at hj)
  obtain ⟨g3, g4⟩ := ws_all hW hc hf 48 0 _ (by omega) (by omega) g1
  match s, hs, hsz with
  | [s0, s1, s2, s3, s4, s5, s6, s7], _, hsz =>
    have z : ∀ i (h : i < [s0, s1, s2, s3, s4, s5, s6, s7].length), Nv ρ (.zv i) ([s0, s1, s2, s3, s4, s5, s6, s7][i]) := fun i h => ⟨by simp only [T.ev, (hsz i h).1]; rfl, (hsz i h).2⟩
    have n0 := z 0 (by simp)
    have n1 := z 1 (by simp)
    have n2 := z 2 (by simp)
    have n3 := z 3 (by simp)
    have n4 := z 4 (by simp)
    have n5 := z 5 (by simp)
    have n6 := z 6 (by simp)
    have n7 := z 7 (by simp)
    simp only [List.getElem_cons_zero, List.getElem_cons_succ] at n0 n1 n2 n3 n4 n5 n6 n7
    have hzl : (zipP kl (wsN 48 (w0sN 16 bs [])).reverse).length = 64 := by rw [zipP_eq, List.length_zip, hkl]; simp [g4]
    obtain ⟨a, b, c, d, e, f, g, h, hr, heq⟩ := rnds_all hW hks hc hf (zipP kl (wsN 48 (w0sN 16 bs [])).reverse) 0 s0 s1 s2 s3 s4 s5 s6 s7 (fun a b c d e f g h => fin8 [addN s0 a, addN s1 b, addN s2 c, addN s3 d, addN s4 e, addN s5 f, addN s6 g, addN s7 h] fun l => l) (by rw [hzl]) (fun j hj => by
      rw [hzl] at hj
      have e : (zipP kl (wsN 48 (w0sN 16 bs [])).reverse)[j]'(by rw [hzl]; exact hj) = (ks j, (wsN 48 (w0sN 16 bs []))[(wsN 48 (w0sN 16 bs [])).length - 1 - j]'(by rw [g4]; omega)) := by
        simp [zipP_eq, hkl]
      rw [e]
      refine ⟨by simp, ?_⟩
      have := g3 j (by rw [g4]; exact hj)
      simpa using this) ⟨n0, n1, n2, n3, n4, n5, n6, n7⟩
    have hp : pressN kl [s0, s1, s2, s3, s4, s5, s6, s7] bs = [addN s0 a, addN s1 b, addN s2 c, addN s3 d, addN s4 e, addN s5 f, addN s6 g, addN s7 h] := by
      show rndsN _ _ _ _ _ _ _ _ _ _ = _
      rw [heq, fin8_eq]
    rw [hp]
    refine ⟨rfl, fun i hi => ?_⟩
    match i, hi with
    | 0, _ => exact n0.add hr.a
    | 1, _ => exact n1.add hr.b
    | 2, _ => exact n2.add hr.c
    | 3, _ => exact n3.add hr.d
    | 4, _ => exact n4.add hr.e
    | 5, _ => exact n5.add hr.f
    | 6, _ => exact n6.add hr.g
    | 7, _ => exact n7.add hr.h
end
end Sha
end Go.Sy
/-! The two ways in which presses are written. -/
namespace Go.Sy
namespace Sha
section
variable {ρ : Va} {x y : T} {a b : Nat}
theorem w0_lt {a b c d : Nat} (ha : a < 256) (hb : b < 256) (hc : c < 256) (hd : d < 256) : w0N a b c d = a * 16777216 + b * 65536 + c * 256 + d ∧ a * 16777216 + b * 65536 + c * 256 + d < 4294967296 := by
  refine ⟨?_, by omega⟩
  show ((a <<< 24 ||| b <<< 16) ||| c <<< 8) ||| d = _
  rw [Nat.shiftLeft_eq, Nat.shiftLeft_eq, Nat.shiftLeft_eq]
  have p24 : (2 : Nat) ^ 24 = 16777216 := rfl
  have p16 : (2 : Nat) ^ 16 = 65536 := rfl
  have p8 : (2 : Nat) ^ 8 = 256 := rfl
  have h1 := Nat.two_pow_add_eq_or_of_lt (i := 24) (b := b * 65536) (by rw [p24]; omega) a
  have h2 := Nat.two_pow_add_eq_or_of_lt (i := 16) (b := c * 256) (by rw [p16]; omega) (a * 256 + b)
  have h3 := Nat.two_pow_add_eq_or_of_lt (i := 8) (b := d) (by rw [p8]; omega) (a * 65536 + b * 256 + c)
  rw [p24, Nat.mul_comm] at h1
  rw [p16] at h2
  rw [p8] at h3
  rw [p24, p16, p8, ← h1]
  rw [show a * 16777216 + b * 65536 = 65536 * (a * 256 + b) by omega, ← h2]
  rw [show 65536 * (a * 256 + b) + c * 256 = 256 * (a * 65536 + b * 256 + c) by omega, ← h3]
theorem rot_add {l r : Nat} (h : l + r = 32) (ha : a < 4294967296) : addN (Nat.shiftRight a r) (Nat.mod (Nat.shiftLeft a l) 4294967296) = rotN a l r := by
  have hr : a >>> r < 2 ^ l := by
    rw [Nat.shiftRight_eq_div_pow]
    refine Nat.div_lt_of_lt_mul ?_
    rw [← Nat.pow_add, Nat.add_comm, h]; exact ha
  have hm : (a <<< l) % 4294967296 = 2 ^ l * (a % 2 ^ r) := by
    rw [Nat.shiftLeft_eq, Nat.mul_comm, show (4294967296 : Nat) = 2 ^ l * 2 ^ r by rw [← Nat.pow_add, h], Nat.mul_mod_mul_left]
  have hlt : 2 ^ l * (a % 2 ^ r) + a >>> r < 4294967296 := by
    have h1 : a % 2 ^ r < 2 ^ r := Nat.mod_lt _ (Nat.two_pow_pos r)
    have h2 : 2 ^ l * (a % 2 ^ r + 1) ≤ 2 ^ l * 2 ^ r := Nat.mul_le_mul_left _ h1
    rw [← Nat.pow_add, h, Nat.mul_add] at h2
    omega
  show ((a >>> r) + (a <<< l) % 4294967296) % 4294967296 = ((a <<< l) % 4294967296) ||| (a >>> r)
  rw [hm, ← Nat.two_pow_add_eq_or_of_lt hr, Nat.add_comm, Nat.mod_eq_of_lt hlt]
theorem xor_ones (ha : a < 4294967296) : Nat.xor 4294967295 a = 4294967295 - a := by
  have h1 : (~~~ (BitVec.ofNat 32 a)).toNat = 2 ^ 32 - 1 - (BitVec.ofNat 32 a).toNat := BitVec.toNat_not
  have h2 : BitVec.allOnes 32 ^^^ BitVec.ofNat 32 a = ~~~ (BitVec.ofNat 32 a) := BitVec.allOnes_xor
  have h3 : (BitVec.allOnes 32 ^^^ BitVec.ofNat 32 a).toNat = (BitVec.allOnes 32).toNat ^^^ (BitVec.ofNat 32 a).toNat := BitVec.toNat_xor _ _
  rw [h2, h1, BitVec.toNat_allOnes, BitVec.toNat_ofNat, Nat.mod_eq_of_lt (b := 2 ^ 32) ha] at h3
  exact h3.symm
theorem Nv.mul (hx : Nv ρ x a) (n : Nat) : Nv ρ (.bin .mul .u32 x (.z (n : Int))) (Nat.mod (Nat.mul a n) 4294967296) := by
  refine ⟨?_, Nat.mod_lt _ (by decide)⟩
  simp only [T.ev, hx.1, zar, Option.map_some]
  rw [show (a : Int) * (n : Int) = ((a * n : Nat) : Int) by push_cast; rfl, wrap_u32]; rfl
theorem Nv.quo (hx : Nv ρ x a) (n k : Nat) (hn : n = 2 ^ k) : Nv ρ (.bin .quo .u32 x (.z (n : Int))) (Nat.shiftRight a k) := by
  have hlt : a >>> k < 4294967296 := Nat.lt_of_le_of_lt (Nat.shiftRight_le a k) hx.2
  have hn0 : (n : Int) ≠ 0 := by have := Nat.two_pow_pos k; omega
  refine ⟨?_, hlt⟩
  simp only [T.ev, hx.1, zar]
  rw [if_neg hn0, Option.map_some]
  rw [show (a : Int).tdiv (n : Int) = ((a / n : Nat) : Int) from rfl, wrap_u32]
  have : a / n = a >>> k := by rw [Nat.shiftRight_eq_div_pow, hn]
  rw [this, Nat.mod_eq_of_lt hlt]; rfl
theorem Nv.not (hx : Nv ρ x a) : Nv ρ (.bin .sub .u32 (.z 4294967295) x) (Nat.xor 4294967295 a) := by
  have := hx.2
  rw [xor_ones this]
  refine ⟨?_, by omega⟩
  simp only [T.ev, hx.1, zar, Option.map_some]
  rw [show (4294967295 : Int) - (a : Int) = ((4294967295 - a : Nat) : Int) by omega, wrap_u32, Nat.mod_eq_of_lt (by omega)]
end
def rotA (x : T) (l r : Nat) : T := .bin .or .u32 (.bin .shl .u32 x (.z (.ofNat l))) (.bin .shr .u32 x (.z (.ofNat r)))
def ad (x y : T) : T := .bin .add .u32 x y
def xo (x y : T) : T := .bin .xor .u32 x y
def an (x y : T) : T := .bin .and .u32 x y
def shrT (x : T) (n : Nat) : T := .bin .shr .u32 x (.z (.ofNat n))
def wayA : Way where
  w0 a b c d := .bin .or .u32 (.bin .or .u32 (.bin .or .u32 (.bin .shl .u32 (.conv .u32 a) (.z 24)) (.bin .shl .u32 (.conv .u32 b) (.z 16))) (.bin .shl .u32 (.conv .u32 c) (.z 8))) (.conv .u32 d)
  w1 w16 w15 w7 w2 := ad (ad (ad w16 (xo (xo (rotA w15 25 7) (rotA w15 14 18)) (shrT w15 3))) w7) (xo (xo (rotA w2 15 17) (rotA w2 13 19)) (shrT w2 10))
  x h e f g k w := ad (ad (ad (ad h (xo (xo (rotA e 26 6) (rotA e 21 11)) (rotA e 7 25))) (xo (an e f) (an (xo (.z 4294967295) e) g))) (.z (.ofNat k))) w
  y a b c := ad (xo (xo (rotA a 30 2) (rotA a 19 13)) (rotA a 10 22)) (xo (xo (an a b) (an a c)) (an b c))
theorem addN3 (a b c d : Nat) : addN (addN (addN a b) c) d = Nat.mod (Nat.add (Nat.add (Nat.add a b) c) d) 4294967296 := by
  show (((a + b) % 4294967296 + c) % 4294967296 + d) % 4294967296 = (a + b + c + d) % 4294967296
  omega
theorem addN4 (a b c d e : Nat) : addN (addN (addN (addN a b) c) d) e = Nat.mod (Nat.add (Nat.add (Nat.add (Nat.add a b) c) d) e) 4294967296 := by
  show ((((a + b) % 4294967296 + c) % 4294967296 + d) % 4294967296 + e) % 4294967296 = (a + b + c + d + e) % 4294967296
  omega
theorem rotA_ok {ρ : Va} {x : T} {a : Nat} (hx : Nv ρ x a) (l r : Nat) (hl : l ≤ 32) (hr : r ≤ 32) : Nv ρ (rotA x l r) (rotN a l r) := (hx.shl l hl).or (hx.shr r hr)
theorem wayA_ok : wayA.OK where
  w0 ha hb hc hd la lb lc ld := by
    have sh : ∀ {x n : Nat}, x < 256 → n ≤ 24 → Nat.mod (Nat.shiftLeft x n) 4294967296 = Nat.shiftLeft x n := fun {x n} hx hn => by
      refine Nat.mod_eq_of_lt ?_
      show x <<< n < 4294967296
      rw [Nat.shiftLeft_eq]
      have : 2 ^ n ≤ 2 ^ 24 := Nat.pow_le_pow_right (by decide) hn
      have h2 : x * 2 ^ n ≤ 255 * 2 ^ 24 := Nat.mul_le_mul (by omega) this
      omega
    have h := ((((Nv.conv ha la).shl 24 (by decide)).or ((Nv.conv hb lb).shl 16 (by decide))).or ((Nv.conv hc lc).shl 8 (by decide))).or (Nv.conv hd ld)
    rw [sh la (by decide), sh lb (by decide), sh lc (by decide)] at h
    exact h
  w1 h16 h15 h7 h2 := by
    have h := ((h16.add (((rotA_ok h15 25 7 (by decide) (by decide)).xor (rotA_ok h15 14 18 (by decide) (by decide))).xor (h15.shr 3 (by decide)))).add h7).add (((rotA_ok h2 15 17 (by decide) (by decide)).xor (rotA_ok h2 13 19 (by decide) (by decide))).xor (h2.shr 10 (by decide)))
    exact h.cast (addN3 _ _ _ _)
  x hh he hf hg hk hw := by
    have h := (((hh.add (((rotA_ok he 26 6 (by decide) (by decide)).xor (rotA_ok he 21 11 (by decide) (by decide))).xor (rotA_ok he 7 25 (by decide) (by decide)))).add ((he.and hf).xor ((((Nv.z (n := 4294967295) (by decide)).xor he).and hg)))).add (Nv.z hk)).add hw
    exact h.cast (addN4 _ _ _ _ _)
  y ha hb hc := (((rotA_ok ha 30 2 (by decide) (by decide)).xor (rotA_ok ha 19 13 (by decide) (by decide))).xor (rotA_ok ha 10 22 (by decide) (by decide))).add (((ha.and hb).xor (ha.and hc)).xor (hb.and hc))
def rotB (x : T) (l r : Nat) : T := .bin .add .u32 (.bin .shr .u32 x (.z (.ofNat r))) (.bin .shl .u32 x (.z (.ofNat l)))
def quoT (x : T) (n : Nat) : T := .bin .quo .u32 x (.z (.ofNat n))
def mulT (x : T) (n : Nat) : T := .bin .mul .u32 x (.z (.ofNat n))
def wayB : Way where
  w0 a b c d := ad (ad (ad (mulT (.conv .u32 a) 16777216) (mulT (.conv .u32 b) 65536)) (mulT (.conv .u32 c) 256)) (.conv .u32 d)
  w1 w16 w15 w7 w2 := ad (ad (ad w16 (xo (xo (rotB w15 25 7) (rotB w15 14 18)) (quoT w15 8))) w7) (xo (xo (rotB w2 15 17) (rotB w2 13 19)) (quoT w2 1024))
  x h e f g k w := ad (ad (ad (ad h (xo (xo (rotB e 26 6) (rotB e 21 11)) (rotB e 7 25))) (xo (an e f) (an (.bin .sub .u32 (.z 4294967295) e) g))) (.z (.ofNat k))) w
  y a b c := ad (xo (xo (rotB a 30 2) (rotB a 19 13)) (rotB a 10 22)) (xo (xo (an a b) (an a c)) (an b c))
theorem rotB_ok {ρ : Va} {x : T} {a : Nat} (hx : Nv ρ x a) (l r : Nat) (h : l + r = 32) : Nv ρ (rotB x l r) (rotN a l r) := ((hx.shr r (by omega)).add (hx.shl l (by omega))).cast (rot_add h hx.2)
theorem wayB_ok : wayB.OK where
  w0 ha hb hc hd la lb lc ld := by
    have h := ((((Nv.conv ha la).mul 16777216).add ((Nv.conv hb lb).mul 65536)).add ((Nv.conv hc lc).mul 256)).add (Nv.conv hd ld)
    refine h.cast ?_
    rw [(w0_lt la lb lc ld).1, addN3]
    show ((_ * 16777216) % 4294967296 + (_ * 65536) % 4294967296 + (_ * 256) % 4294967296 + _) % 4294967296 = _
    omega
  w1 h16 h15 h7 h2 := by
    have h := ((h16.add (((rotB_ok h15 25 7 rfl).xor (rotB_ok h15 14 18 rfl)).xor (h15.quo 8 3 rfl))).add h7).add (((rotB_ok h2 15 17 rfl).xor (rotB_ok h2 13 19 rfl)).xor (h2.quo 1024 10 rfl))
    exact h.cast (addN3 _ _ _ _)
  x hh he hf hg hk hw := by
    have h := (((hh.add (((rotB_ok he 26 6 rfl).xor (rotB_ok he 21 11 rfl)).xor (rotB_ok he 7 25 rfl))).add ((he.and hf).xor (he.not.and hg))).add (Nv.z hk)).add hw
    exact h.cast (addN4 _ _ _ _ _)
  y ha hb hc := (((rotB_ok ha 30 2 rfl).xor (rotB_ok ha 19 13 rfl)).xor (rotB_ok ha 10 22 rfl)).add (((ha.and hb).xor (ha.and hc)).xor (hb.and hc))
end Sha
end Go.Sy
/-! Presses, by runs over numbers that are not known. -/
namespace Go.Sy
open Go.RowKit (Below)
namespace Sha
noncomputable def eqTs : List T → List T → Bool
  | [], [] => true
  | a :: l, b :: m => T.beq a b && eqTs l m
  | _, _ => false
theorem eqTs_eq : ∀ {a b : List T}, eqTs a b = true → a = b
  | [], [], _ => rfl
  | a :: l, b :: m, h => by
    simp only [eqTs, Bool.and_eq_true] at h
    rw [T.beq_eq h.1, eqTs_eq h.2]
  | [], _ :: _, h => by cases h
  | _ :: _, [], h => by cases h
noncomputable def symsF (k : IntKind) (i n : Nat) : List AV := Nat.rec (motive := fun _ => Nat → List AV) (fun _ => []) (fun _ ih i => .sym k (.zv i) :: ih (Nat.succ i)) n i
theorem symsF_get (k : IntKind) : ∀ (n i j : Nat), (symsF k i n)[j]? = if j < n then some (.sym k (.zv (i + j))) else none
  | 0, i, j => by show ([] : List AV)[j]? = _; simp
  | n + 1, i, j => by
    show (AV.sym k (.zv i) :: symsF k (i + 1) n)[j]? = _
    cases j with
    | zero => simp
    | succ j => rw [List.getElem?_cons_succ, symsF_get k n (i + 1) j]; simp only [Nat.add_lt_add_iff_right]; rw [show i + 1 + j = i + (j + 1) by omega]
theorem symsF_len (k : IntKind) : ∀ (n i : Nat), (symsF k i n).length = n
  | 0, i => rfl
  | n + 1, i => by show (symsF k (i + 1) n).length + 1 = _; rw [symsF_len k n]
noncomputable def intsF (k : IntKind) (l : List Nat) : List AV := List.rec (motive := fun _ => List AV) [] (fun x _ ih => .int k x :: ih) l
theorem intsF_eq (k : IntKind) (l : List Nat) : intsF k l = l.map (AV.int k) := by
  induction l with
  | nil => rfl
  | cons x l ih => show AV.int k x :: intsF k l = _; rw [ih]; rfl
noncomputable def outs : List AV := [.sym .u32 (outT 0), .sym .u32 (outT 1), .sym .u32 (outT 2), .sym .u32 (outT 3), .sym .u32 (outT 4), .sym .u32 (outT 5), .sym .u32 (outT 6), .sym .u32 (outT 7)]
theorem outs_get {i : Nat} (h : i < 8) : outs[i]? = some (.sym .u32 (outT i)) := by
  match i, h with
  | 0, _ => rfl
  | 1, _ => rfl
  | 2, _ => rfl
  | 3, _ => rfl
  | 4, _ => rfl
  | 5, _ => rfl
  | 6, _ => rfl
  | 7, _ => rfl
noncomputable def pressK (W : Way) (kl : List Nat) : Res → VC
  | .val (.tuple []) st => vbind (st.heap.get 0) fun b => vbind (getsB b.cell 8 0) fun l => vif (sameL l outs && eqTs st.x.nm (chR W (getD0 kl) 64)) .ok
  | _ => .bad
noncomputable def pressB (W : Way) (kl : List Nat) : Res → VC
  | .val (.agg l) st => vif (sameL l outs && eqTs st.x.nm (chR W (getD0 kl) 64)) .ok
  | _ => .bad
noncomputable def stP (t : Tr AV) : St := ⟨1, 1, Tr.nil.set 0 (some ⟨8, t, [], 0, 0, 0, 0⟩), .nil, ⟨.nil, .nil, [], 72, 0, 2, []⟩⟩
noncomputable def stB : St := ⟨0, 1, .nil, .nil, ⟨.nil, .nil, [], 72, 0, 1, []⟩⟩
noncomputable def runPress (W : Way) (kl : List Nat) (P : Program) (n f : Nat) (ls : Tr LSpec) : VC :=
  putsK (intsF .u32 kl) 0 .nil fun t0 => putsK (symsF .u8 8 64) 0 .nil fun t1 => putsK (symsF .u32 0 8) 0 .nil fun t2 => Tr.setK .nil 0 (some t0) fun r => r.setK 1 (some t1) fun r =>
  runX P .nil .nil n (.call f [.ptr (some ⟨.r 0, 0⟩), .ptr (some ⟨.a 0, 0⟩), .slice (some ⟨.a 1, 0⟩) 64 (.u 0 0)]) (pressK W kl) ls r (stP t2)
noncomputable def runPressB (W : Way) (kl : List Nat) (P : Program) (n f : Nat) (ls : Tr LSpec) : VC :=
  putsK (symsF .u8 8 64) 0 .nil fun t1 => Tr.setK .nil 0 (some t1) fun r =>
  runX P .nil .nil n (.call f [.agg (symsF .u32 0 8), .slice (some ⟨.a 0, 0⟩) 64 (.u 0 0)]) (pressB W kl) ls r stB
def zsOf (l : List Nat) : List Int := l.map fun (n : Nat) => (n : Int)
theorem zsOf_get {l : List Nat} {i n : Nat} (h : l[i]? = some n) : (zsOf l)[i]? = some (n : Int) := by simp [zsOf, h]
theorem u32_wf {n : Nat} (h : n < 4294967296) : (Lit.int .u32 (n : Int)).wf = true := by
  simp [Lit.wf, IntKind.min, IntKind.max, IntKind.signed, IntKind.bits]; omega
theorem u8_wf {n : Nat} (h : n < 256) : (Lit.int .u8 (n : Int)).wf = true := by
  simp [Lit.wf, IntKind.min, IntKind.max, IntKind.signed, IntKind.bits]; omega
theorem cxOK_nil (P : Program) (hm : P.follows .mixedOrders = true) {ls : Tr LSpec} {ro : Tr (Tr AV)} (K : Nat → Prop) (w : World) : CxOK (tabs P hm .nil .nil ls ro) K w :=
  let h := cxOf_ok P hm .nil (ls := ls) (ro := ro) (globOK_nil w)
  ⟨h.eqm, h.und, h.size, h.zero, h.fld, fun g t hg => by simp [tabs, cxWith] at hg⟩
theorem fnsOK_nil (P : Program) (hm : P.follows .mixedOrders = true) {ls : Tr LSpec} {ro : Tr (Tr AV)} (K : Nat → Prop) (w : World) (Θ : Pred) : FnsOK (tabs P hm .nil .nil ls ro) K w Θ :=
  ⟨fun _ _ hf => fns_get hf, fun f c hf => by simp [tabs, cxWith] at hf⟩
/-- Bytes that came in. -/
theorem ro_bytes {E : Env} {w : World} {k : IntKind} {base b o n : Nat} {l : List Nat} (hl : l.length = n) (hz : ∀ (j m : Nat), l[j]? = some m → E.z[base + j]? = some (m : Int)) (hw : ∀ (j m : Nat), l[j]? = some m → (Lit.int k (m : Int)).wf = true) (hc : ∀ (j m : Nat), l[j]? = some m → w.cell? ⟨b, j + o, none⟩ = some (.int k (m : Int))) :
    ∀ j v, (puts (symsF k base n) 0 .nil).get j = some v → ∃ x, v.den E = some x ∧ w.cell? ⟨b, j + o, none⟩ = some x := by
  intro j v hv
  rw [puts_get, symsF_len] at hv
  by_cases c : 0 ≤ j ∧ j < 0 + n
  · rw [if_pos c, Nat.sub_zero, symsF_get, if_pos (by omega)] at hv
    cases hv
    have hj : l[j]? = some (l[j]'(by omega)) := List.getElem?_eq_getElem (by omega)
    exact ⟨_, den_sym_of (n := ((l[j]'(by omega) : Nat) : Int)) (by simp [T.ev, Env.va, hz j _ hj]) (hw j _ hj), hc j _ hj⟩
  · rw [if_neg c] at hv; simp at hv
section
variable {P : Program} (hm : P.follows .mixedOrders = true) {W : Way} (hW : W.OK) {kl : List Nat} {n f : Nat} {ls : Tr LSpec} (hfn : hasFn P f = true) (hkl : kl.length = 64) (hk : ∀ k ∈ kl, k < 4294967296)
include hm hW hfn hkl hk
omit hm hW hfn in
theorem ks_lt : ∀ t, t < 64 → getD0 kl t < 4294967296 := by
  intro t ht
  rw [getD0_eq, List.getD_eq_getElem?_getD, List.getElem?_eq_getElem (by omega)]
  exact hk _ (List.getElem_mem _)
omit hm hW hfn hk in
theorem kl_eq : kl = (List.range 64).map (getD0 kl) := by
  apply List.ext_getElem
  · simp [hkl]
  · intro i h1 h2
    rw [List.getElem_map, List.getElem_range, getD0_eq, List.getD_eq_getElem?_getD, List.getElem?_eq_getElem h1]; rfl
omit hm hfn in
theorem chain_out {E : Env} {s l : List Nat} (hs : s.length = 8) (hsz : ∀ x ∈ s, x < 4294967296) (hl : l.length = 64) (hlz : ∀ x ∈ l, x < 256) (hz : ∀ (j m : Nat), (s ++ l)[j]? = some m → E.z[j]? = some (m : Int)) (hf : FOK E.va (chR W (getD0 kl) 64)) :
    (pressN kl s l).length = 8 ∧ ∀ (i m : Nat) (x : Value), (pressN kl s l)[i]? = some m → (AV.sym .u32 (outT i)).den E = some x → x = .int .u32 (m : Int) := by
  have hp := press_all hW (ks_lt hkl hk) (chain_chR W (getD0 kl)) hf hs hl (fun i h => ⟨hz i _ (by rw [List.getElem?_append_left h]; exact List.getElem?_eq_getElem h), hsz _ (List.getElem_mem _)⟩)
    (fun i h => ⟨hz (8 + i) _ (by rw [List.getElem?_append_right (by omega), hs, show 8 + i - 8 = i by omega]; exact List.getElem?_eq_getElem h), hlz _ (List.getElem_mem _)⟩) (kl_eq hkl)
  refine ⟨hp.1, fun i m x hi hx => ?_⟩
  obtain ⟨q, h1, _, rfl⟩ := den_sym hx
  obtain ⟨hlt, he⟩ := List.getElem?_eq_some_iff.1 hi
  have := (hp.2 i hlt).1
  rw [he] at this
  rw [this] at h1; cases h1; rfl
theorem press_calls (h : (runPress W kl P n f ls).triv = true) {w : World} {bs os bk ok bb ob c : Nat} {cs : Array Value} {el : TypeId} {fr : Nat × Nat} (hh : w.heap[bs]? = some (.cells cs el fr)) (hfree : fr.1 = fr.2 ∨ cs.size ≤ fr.1) (hroom : 8 + os ≤ cs.size)
    {s l : List Nat} (hs : s.length = 8) (hsz : ∀ x ∈ s, x < 4294967296) (hsc : ∀ (i m : Nat), s[i]? = some m → cs[i + os]? = some (.int .u32 (m : Int))) (hl : l.length = 64) (hlz : ∀ x ∈ l, x < 256)
    (hbk : bk ≠ bs ∧ bk < w.heap.size) (hkc : ∀ (i m : Nat), kl[i]? = some m → w.cell? ⟨bk, i + ok, none⟩ = some (.int .u32 (m : Int))) (hbb : bb ≠ bs ∧ bb < w.heap.size) (hbc : ∀ (i m : Nat), l[i]? = some m → w.cell? ⟨bb, i + ob, none⟩ = some (.int .u8 (m : Int))) (hc : 64 ≤ c) :
    Calls P f #[.pointer (some ⟨bs, os, none⟩), .pointer (some ⟨bk, ok, none⟩), .slice (some ⟨bb, ob, none⟩) 64 c] w fun e w' => e = .returned (.tuple #[]) ∧ Kept (fun b => b < w.heap.size ∧ b ≠ bs) w w' ∧
      ∃ cs' el' fr', w'.heap[bs]? = some (.cells cs' el' fr') ∧ (fr'.1 = fr'.2 ∨ cs'.size ≤ fr'.1) ∧ 8 + os ≤ cs'.size ∧ ∀ (i m : Nat), (pressN kl s l)[i]? = some m → cs'[i + os]? = some (.int .u32 (m : Int)) := by
  unfold runPress at h
  rw [putsK_eq, putsK_eq, putsK_eq, Tr.setK_eq, Tr.setK_eq, runX_eq] at h
  have hbs : bs < w.heap.size := by
    rcases Nat.lt_or_ge bs w.heap.size with c | c
    · exact c
    · rw [Array.getElem?_eq_none c] at hh; cases hh
  generalize hro : (Tr.nil.set 0 (some (puts (intsF .u32 kl) 0 .nil))).set 1 (some (puts (symsF .u8 8 64) 0 .nil)) = ro at h
  obtain ⟨E, hE⟩ : ∃ E : Env, E = ⟨[some (bs, os)], [c], zsOf (s ++ l), [], [.pointer (some ⟨bk, ok, none⟩), .pointer (some ⟨bb, ob, none⟩)]⟩ := ⟨_, rfl⟩
  have hz : ∀ (j m : Nat), (s ++ l)[j]? = some m → E.z[j]? = some (m : Int) := fun j m hj => by rw [hE]; exact zsOf_get hj
  have hzs : ∀ (j m : Nat), s[j]? = some m → E.z[0 + j]? = some (m : Int) := fun j m hj => hz _ _ (by rw [Nat.zero_add, List.getElem?_append_left (List.getElem?_eq_some_iff.1 hj).1]; exact hj)
  have hzl : ∀ (j m : Nat), l[j]? = some m → E.z[8 + j]? = some (m : Int) := fun j m hj => hz _ _ (by rw [List.getElem?_append_right (by omega), hs, show 8 + j - 8 = j by omega]; exact hj)
  have hget : ∀ k b, (stP (puts (symsF .u32 0 8) 0 .nil)).heap.get k = some b → k = 0 ∧ b = ⟨8, puts (symsF .u32 0 8) 0 .nil, [], 0, 0, 0, 0⟩ := by
    intro k b hb
    have hb : (Tr.nil.set 0 (some _)).get k = some b := hb
    rw [Tr.get_set] at hb
    split at hb
    · rename_i e; cases hb; exact ⟨e.symm, rfl⟩
    · simp at hb
  have hS : StRel (tabs P hm .nil .nil ls ro) (fun b => b < w.heap.size ∧ b ≠ bs) w E (stP (puts (symsF .u32 0 8) 0 .nil)) w := by
    refine ⟨by rw [hE]; rfl, by rw [hE]; rfl, by rw [hE]; simp [zsOf, stP, hs, hl], by rw [hE]; rfl, by rw [hE]; rfl, fun k hk => hk.1, .refl _ _, fun k p hp => ?_, fun k b hb => ?_, fun k b hb => .inr ?_, fun k1 k2 b1 b2 id1 sh1 id2 sh2 h1 h2 _ _ hf => ?_, fun f l hl => by simp [stP] at hl,
      fun k b hb k' b' hb' hf => ?_, fun k o ho => by simp [stP] at ho, fun k1 k2 o1 o2 p h1 => by simp [stP] at h1, fun k o ho => by simp [stP] at ho, fun c hc => (by cases hc), fun k b p hb hp => ?_, fun f l hl => by simp [stP] at hl, ⟨fun i t ht => ?_, fun c hc => (by cases hc)⟩⟩
    · rw [hE] at hp
      match k, hp with
      | 0, hp => simp at hp; subst hp; exact ⟨fun h => h.2 rfl, hbs⟩
      | k + 1, hp => simp at hp
    · obtain ⟨rfl, rfl⟩ := hget k b hb; exact ⟨Nat.zero_lt_one, Nat.zero_lt_one⟩
    · obtain ⟨rfl, rfl⟩ := hget k b hb
      refine ⟨bs, os, cs, el, fr, by rw [hE]; rfl, hh, hfree, hroom, fun i v hv => ?_, fun i hi => (by cases hi), fun i v hv => ?_⟩
      · have hv : (puts (symsF .u32 0 8) 0 .nil).get i = some v := hv
        rw [puts_get, symsF_len] at hv
        by_cases c : 0 ≤ i ∧ i < 0 + 8
        · show i < 8; omega
        · rw [if_neg c] at hv; simp at hv
      · rw [cell_eq] at hv
        simp only [puts_get, symsF_len, Nat.sub_zero, symsF_get] at hv
        by_cases c : i < 8
        · rw [if_pos (by omega), if_pos c] at hv
          cases hv
          have hi : s[i]? = some (s[i]'(by omega)) := List.getElem?_eq_getElem (by omega)
          exact ⟨_, den_sym_of (n := ((s[i]'(by omega) : Nat) : Int)) (by simp only [T.ev, Env.va, hzs i _ hi]; rfl) (u32_wf (hsz _ (List.getElem_mem _))), hsc i _ hi⟩
        · rw [if_neg (by omega)] at hv
          simp at hv
    · obtain ⟨_, rfl⟩ := hget k1 b1 h1
      obtain ⟨_, rfl⟩ := hget k2 b2 h2
      exact absurd rfl hf
    · obtain ⟨rfl, rfl⟩ := hget k b hb
      obtain ⟨rfl, rfl⟩ := hget k' b' hb'
      unfold famOf
      simp [stP]
    · obtain ⟨rfl, rfl⟩ := hget k b hb
      exact ⟨p, hp⟩
    · have ht : ro.get i = some t := ht
      rw [← hro, Tr.get_set] at ht
      by_cases e : 1 = i
      · subst e
        rw [if_pos rfl] at ht; cases ht
        exact ⟨bb, ob, by rw [hE]; rfl, ⟨hbb.2, hbb.1⟩, ro_bytes hl hzl (fun j m hj => u8_wf (hlz _ (List.mem_of_getElem? hj))) hbc⟩
      · rw [if_neg e, Tr.get_set] at ht
        by_cases e : 0 = i
        · subst e
          rw [if_pos rfl] at ht; cases ht
          refine ⟨bk, ok, by rw [hE]; rfl, ⟨hbk.2, hbk.1⟩, fun j v hv => ?_⟩
          rw [puts_get, intsF_eq] at hv
          simp only [List.length_map, Nat.sub_zero, List.getElem?_map] at hv
          by_cases c : 0 ≤ j ∧ j < 0 + kl.length
          · rw [if_pos c, List.getElem?_eq_getElem (by omega)] at hv
            cases hv
            have hj : kl[j]? = some (kl[j]'(by omega)) := List.getElem?_eq_getElem (by omega)
            have hlt := hk _ (List.getElem_mem (l := kl) (n := j) (by omega))
            exact ⟨_, by rw [den_int_of (k := .u32) hlt, sgn_nat .u32 hlt], hkc j _ hj⟩
          · rw [if_neg c] at hv; simp at hv
        · rw [if_neg e] at ht; simp at ht
  have hargs : denL E [.ptr (some ⟨.r 0, 0⟩), .ptr (some ⟨.a 0, 0⟩), .slice (some ⟨.a 1, 0⟩) 64 (.u 0 0)] = some [.pointer (some ⟨bs, os, none⟩), .pointer (some ⟨bk, ok, none⟩), .slice (some ⟨bb, ob, none⟩) 64 c] := by
    rw [hE]; simp [denL, AV.den, aden, cden, hc]
  refine (calls_of_runE (X := tabs P hm .nil .nil ls ro) (cxOK_nil P hm _ w) (fnsOK_nil P hm _ w (fun _ _ => True)) (R := []) hS hargs (triv_holds h) hfn).mono fun e w' ⟨v, he, ho⟩ => ?_
  obtain ⟨v', st', E', R', _, h2, h3, h4, _, h6⟩ := ho
  unfold pressK at h2
  split at h2
  · rename_i st e
    cases e
    obtain ⟨b, hb, h2⟩ := vbind_inv h2
    obtain ⟨lo, hlo, h2⟩ := vbind_inv h2
    obtain ⟨h2, _⟩ := vif_inv h2
    rw [Bool.and_eq_true] at h2
    have e1 := same_both.2 _ _ h2.1
    have e2 := eqTs_eq h2.2
    subst e1
    have hf := h4.ext.names
    rw [e2] at hf
    obtain ⟨hp1, hp2⟩ := chain_out hW hkl hk hs hsz hl hlz (fun j m hj => h3.va.1 _ _ (hz j m hj)) hf
    have hm0 : E'.m[0]? = some (some (bs, os)) := h3.m 0 (bs, os) (by rw [hE]; rfl)
    refine ⟨?_, h4.kept, ?_⟩
    · rw [he]
      have : (AV.tuple []).den E' = some (.tuple #[]) := rfl
      rw [this] at h6; cases h6; rfl
    · rcases h4.blks 0 b hb with g | ⟨id, sh, cs', el', fr', g1, g2, g3⟩
      · rw [hm0] at g; cases g.1
      · rw [hm0] at g1; cases g1
        obtain ⟨gl, gg⟩ := getsB_spec 8 0 hlo
        have h8 := gg 7 _ (outs_get (by decide))
        have hsz8 : 8 ≤ b.sz := by
          rw [cell_eq] at h8
          cases hc7 : b.cells.get (0 + 7) with
          | some y => have := g3.bnd _ y hc7; omega
          | none =>
            rw [hc7] at h8
            simp only at h8
            by_cases c : 0 + 7 < b.sz
            · omega
            · rw [if_neg c] at h8; cases h8
        refine ⟨cs', el', fr', g2, g3.free, by have := g3.room; omega, fun i m hi => ?_⟩
        have hi8 : i < 8 := by have := (List.getElem?_eq_some_iff.1 hi).1; omega
        have hci := gg i _ (outs_get hi8)
        rw [Nat.zero_add] at hci
        obtain ⟨x, hx, hxc⟩ := g3.cells i _ hci
        rw [hp2 i m x hi hx] at hxc
        exact hxc
  · exact h2.elim
theorem pressB_calls (h : (runPressB W kl P n f ls).triv = true) {w : World} {bb ob c : Nat} {s l : List Nat} (hs : s.length = 8) (hsz : ∀ x ∈ s, x < 4294967296) (hl : l.length = 64) (hlz : ∀ x ∈ l, x < 256)
    (hbb : bb < w.heap.size) (hbc : ∀ (i m : Nat), l[i]? = some m → w.cell? ⟨bb, i + ob, none⟩ = some (.int .u8 (m : Int))) (hc : 64 ≤ c) :
    Calls P f #[.agg (s.map fun (m : Nat) => Value.int .u32 (m : Int)).toArray, .slice (some ⟨bb, ob, none⟩) 64 c] w fun e w' => e = .returned (.agg ((pressN kl s l).map fun (m : Nat) => Value.int .u32 (m : Int)).toArray) ∧ Below w.heap.size w w' := by
  unfold runPressB at h
  rw [putsK_eq, Tr.setK_eq, runX_eq] at h
  generalize hro : (Tr.nil.set 0 (some (puts (symsF .u8 8 64) 0 .nil))) = ro at h
  obtain ⟨E, hE⟩ : ∃ E : Env, E = ⟨[], [c], zsOf (s ++ l), [], [.pointer (some ⟨bb, ob, none⟩)]⟩ := ⟨_, rfl⟩
  have hz : ∀ (j m : Nat), (s ++ l)[j]? = some m → E.z[j]? = some (m : Int) := fun j m hj => by rw [hE]; exact zsOf_get hj
  have hzs : ∀ (j m : Nat), s[j]? = some m → E.z[0 + j]? = some (m : Int) := fun j m hj => hz _ _ (by rw [Nat.zero_add, List.getElem?_append_left (List.getElem?_eq_some_iff.1 hj).1]; exact hj)
  have hzl : ∀ (j m : Nat), l[j]? = some m → E.z[8 + j]? = some (m : Int) := fun j m hj => hz _ _ (by rw [List.getElem?_append_right (by omega), hs, show 8 + j - 8 = j by omega]; exact hj)
  have hS : StRel (tabs P hm .nil .nil ls ro) (· < w.heap.size) w E stB w := by
    refine ⟨by rw [hE]; rfl, by rw [hE]; rfl, by rw [hE]; simp [zsOf, stB, hs, hl], by rw [hE]; rfl, by rw [hE]; rfl, fun k hk => hk, .refl _ _, fun k p hp => by rw [hE] at hp; simp at hp, fun k b hb => by simp [stB] at hb, fun k b hb => by simp [stB] at hb, fun k1 k2 b1 b2 id1 sh1 id2 sh2 h1 => by simp [stB] at h1, fun f l hl => by simp [stB] at hl,
      fun k b hb => by simp [stB] at hb, fun k o ho => by simp [stB] at ho, fun k1 k2 o1 o2 p h1 => by simp [stB] at h1, fun k o ho => by simp [stB] at ho, fun c hc => (by cases hc), fun k b p hb hp => by simp [stB] at hb, fun f l hl => by simp [stB] at hl, ⟨fun i t ht => ?_, fun c hc => (by cases hc)⟩⟩
    have ht : ro.get i = some t := ht
    rw [← hro, Tr.get_set] at ht
    by_cases e : 0 = i
    · subst e
      rw [if_pos rfl] at ht; cases ht
      exact ⟨bb, ob, by rw [hE]; rfl, hbb, ro_bytes hl hzl (fun j m hj => u8_wf (hlz _ (List.mem_of_getElem? hj))) hbc⟩
    · rw [if_neg e] at ht; simp at ht
  have hagg : denL E (symsF .u32 0 8) = some (s.map fun (m : Nat) => Value.int .u32 (m : Int)) := by
    refine denL_of (by simp [symsF_len, hs]) fun i v hv => ?_
    rw [symsF_get] at hv
    by_cases c : i < 8
    · rw [if_pos c] at hv; cases hv
      have hi : s[i]? = some (s[i]'(by omega)) := List.getElem?_eq_getElem (by omega)
      exact ⟨_, den_sym_of (n := ((s[i]'(by omega) : Nat) : Int)) (by simp only [T.ev, Env.va, hzs i _ hi]; rfl) (u32_wf (hsz _ (List.getElem_mem _))), by simp [hi]⟩
    · rw [if_neg c] at hv; cases hv
  have hargs : denL E [.agg (symsF .u32 0 8), .slice (some ⟨.a 0, 0⟩) 64 (.u 0 0)] = some [.agg (s.map fun (m : Nat) => Value.int .u32 (m : Int)).toArray, .slice (some ⟨bb, ob, none⟩) 64 c] := by
    refine denL_cons.2 ⟨_, _, den_agg_of hagg, ?_, rfl⟩
    rw [hE]; simp [denL, AV.den, aden, cden, hc]
  refine (calls_of_runE (X := tabs P hm .nil .nil ls ro) (cxOK_nil P hm _ w) (fnsOK_nil P hm _ w (fun _ _ => True)) (R := []) hS hargs (triv_holds h) hfn).mono fun e w' ⟨v, he, ho⟩ => ?_
  obtain ⟨v', st', E', R', _, h2, h3, h4, _, h6⟩ := ho
  unfold pressB at h2
  split at h2
  · rename_i lo st e
    cases e
    obtain ⟨h2, _⟩ := vif_inv h2
    rw [Bool.and_eq_true] at h2
    have e1 := same_both.2 _ _ h2.1
    have e2 := eqTs_eq h2.2
    subst e1
    have hf := h4.ext.names
    rw [e2] at hf
    obtain ⟨hp1, hp2⟩ := chain_out hW hkl hk hs hsz hl hlz (fun j m hj => h3.va.1 _ _ (hz j m hj)) hf
    refine ⟨?_, Kept.below h4.kept⟩
    rw [he]
    obtain ⟨xs, hxs, hv⟩ := den_agg h6
    have hxl := denL_length hxs
    have hxx : xs = (pressN kl s l).map fun (m : Nat) => Value.int .u32 (m : Int) := by
      apply List.ext_getElem?
      intro i
      by_cases c : i < 8
      · obtain ⟨y, hy, hyx⟩ := denL_get hxs (outs_get c)
        have hi : (pressN kl s l)[i]? = some ((pressN kl s l)[i]'(by omega)) := List.getElem?_eq_getElem (by omega)
        rw [hyx, hp2 i _ y hi hy, List.getElem?_map, hi]; rfl
      · rw [List.getElem?_eq_none (by rw [hxl]; show 8 ≤ i; omega), List.getElem?_eq_none (by simp [hp1]; omega)]
    rw [hv, hxx]
  · exact h2.elim
end
end Sha
end Go.Sy
