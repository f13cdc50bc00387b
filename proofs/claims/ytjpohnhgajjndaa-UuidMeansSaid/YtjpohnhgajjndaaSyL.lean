import Derived.Test.YtjpohnhgajjndaaSyKB
import Derived.ProofKit
/-! A program's tables; closed calls. -/
namespace Go.Sy
open Go.RowKit (Below)
theorem trS_get {α β : Type} (f : Nat → α → Option β) (l : List α) : ∀ (i : Nat) (t : Tr β) (j : Nat), (trS f l i t).get j = if i ≤ j ∧ j < i + l.length then (match (l[j - i]?).bind (f j) with | some y => some y | none => t.get j) else t.get j := by
  induction l with
  | nil => intro i t j; show t.get j = _; rw [if_neg (by simp)]
  | cons x l ih =>
    intro i t j
    show (trS f l (Nat.succ i) (Option.rec t (fun y => t.set i (some y)) (f i x))).get j = _
    rw [ih]
    have e1 : Nat.succ i = i + 1 := rfl
    rw [e1]
    by_cases c : i + 1 ≤ j ∧ j < i + 1 + l.length
    · rw [if_pos c, if_pos (by simp; omega)]
      obtain ⟨d, rfl⟩ : ∃ d, j = i + 1 + d := ⟨j - (i + 1), by omega⟩
      have e2 : i + 1 + d - (i + 1) = d := by omega
      have e3 : i + 1 + d - i = d + 1 := by omega
      rw [e2, e3, List.getElem?_cons_succ]
      cases (l[d]?).bind (f (i + 1 + d)) with
      | some y => rfl
      | none =>
        simp only
        cases f i x with
        | none => rfl
        | some y => exact Tr.get_set_other _ _ (by omega)
    · rw [if_neg c]
      by_cases c2 : j = i
      · subst c2
        rw [if_pos (by simp)]
        simp only [Nat.sub_self, List.getElem?_cons_zero, Option.bind_some]
        cases f j x with
        | none => rfl
        | some y => exact Tr.get_set_same _ _ _
      · rw [if_neg (by simp; omega)]
        cases f i x with
        | none => rfl
        | some y => exact Tr.get_set_other _ _ (by omega)
theorem trS_some {α β : Type} {f : Nat → α → Option β} {l : List α} {j : Nat} {y : β} (h : (trS f l 0 .nil).get j = some y) : ∃ x, l[j]? = some x ∧ f j x = some y := by
  rw [trS_get] at h
  split at h
  · rw [Nat.sub_zero] at h
    cases hl : l[j]? with
    | none => rw [hl] at h; simp at h
    | some x =>
      rw [hl] at h
      simp only [Option.bind_some] at h
      cases hf : f j x with
      | none => rw [hf] at h; simp at h
      | some z => rw [hf] at h; cases h; exact ⟨x, rfl, hf⟩
  · simp at h
theorem trK_eq {α β γ : Type} (f : Nat → α → Option β) (l : List α) : ∀ (i : Nat) (t : Tr β) (k : Tr β → γ), trK f l i t k = k (trS f l i t) := by
  induction l with
  | nil => intro i t k; rfl
  | cons x l ih =>
    intro i t k
    show (Option.rec (natK (Nat.succ i) fun j => trK f l j t k) (fun y => t.setK i (some y) fun t => natK (Nat.succ i) fun j => trK f l j t k) (f i x) : γ) = k (trS f l (Nat.succ i) (Option.rec t (fun y => t.set i (some y)) (f i x)))
    cases f i x with
    | none => show natK _ _ = _; rw [natK_eq]; exact ih _ _ _
    | some y => show Tr.setK _ _ _ _ = _; rw [Tr.setK_eq, natK_eq]; exact ih _ _ _
theorem runX_eq (P : Program) (con : Tr Con) (glob : Tr (Tr AV)) (n : Nat) (t : Task) (K : Res → VC) : runX P con glob n t K = run (cxWith P con glob) n t st0 K := by
  unfold runX cxWith
  rw [trK_eq, trK_eq, trK_eq, trK_eq, trK_eq]
section
variable {P : Program}
theorem info_of {t : Nat} {i : TypeInfo} (h : P.types[t]? = some i) : P.info? t = some i := by
  have hlt : t < P.types.size := (Array.getElem?_eq_some_iff.1 h).1
  show Tables.info? P.toTables t = some i
  unfold Tables.info?
  rw [if_pos hlt]; exact h
noncomputable def tabs (P : Program) (hm : P.follows .mixedOrders = true) (con : Tr Con) (glob : Tr (Tr AV)) : Tabs := ⟨P, cxWith P con glob, hm⟩
/-- What the package's variables hold. -/
def GlobOK (glob : Tr (Tr AV)) (w0 : World) : Prop := ∀ g t, glob.get g = some t → g < w0.heap.size ∧ ∀ i v, t.get i = some v → ∃ x, (∀ E, AV.den E v = some x) ∧ w0.cell? ⟨g, i, none⟩ = some x
theorem globOK_nil (w0 : World) : GlobOK .nil w0 := fun g t h => by simp at h
theorem cxOf_ok (P : Program) (hm : P.follows .mixedOrders = true) (con : Tr Con) {glob : Tr (Tr AV)} {w0 : World} (hg : GlobOK glob w0) : CxOK (tabs P hm con glob) (· < w0.heap.size) w0 := by
  have hl : ∀ {t : Nat} {i : TypeInfo}, P.types.toList[t]? = some i → P.types[t]? = some i := fun h => by simpa using h
  refine ⟨fun t m h => ?_, fun t d h => ?_, fun t n h => ?_, fun t z h => ?_, fun t fs h f hf => ?_, fun g t h => ?_⟩
  · obtain ⟨i, hi, h⟩ := trS_some h
    obtain ⟨hb, h⟩ := bif_some h
    cases h
    simp only [Bool.and_eq_true, Bool.not_eq_true'] at hb
    exact ⟨hb.1, hb.2.1, by omega, hb.2.2⟩
  · obtain ⟨i, hi, h⟩ := trS_some h
    obtain ⟨d', hd, h⟩ := obind_inv h
    obtain ⟨_, h⟩ := bif_some h
    cases h
    have hi' := info_of (hl hi)
    show Program.underlying P t = some d
    unfold Program.underlying
    rw [hi']
    unfold descOf at hd
    obtain ⟨sz, dd, b, zz, rest⟩ := i
    split at hd
    · rename_i hn
      cases hu : P.types[‹TypeId›]? with
      | none => simp only [hu] at hd; cases hd
      | some k =>
        simp only [hu, Option.map_some, Option.some.injEq] at hd
        simp_all [info_of hu]
    · simp_all
  · have h : (trS (fun _ (i : TypeInfo) => some i.size) P.types.toList 0 .nil).get t = some n := h
    obtain ⟨i, hi, h⟩ := trS_some h
    cases h
    exact ⟨i, info_of (hl hi), rfl⟩
  · obtain ⟨i, hi, h⟩ := trS_some h
    obtain ⟨v, hv, h⟩ := obind_inv h
    obtain ⟨d, hd, h⟩ := obind_inv h
    obtain ⟨hag, h⟩ := bif_some h
    obtain ⟨z', hz', h⟩ := obind_inv h
    obtain ⟨hb, h⟩ := bif_some h
    cases h
    simp only [Bool.and_eq_true, ble_iff, beq_iff, decide_eq_true_eq, lenL_eq] at hb
    rw [bbeq_eq, decide_eq_true_eq] at hag
    refine ⟨i, v, info_of (hl hi), hv, hb.1, hb.2, fun E => denL_ofCells hz', fun d' hd' => ?_⟩
    obtain ⟨i', hi', h'⟩ := trS_some hd'
    rw [hi] at hi'; cases hi'
    obtain ⟨d'', hd'', h'⟩ := obind_inv h'
    obtain ⟨_, h'⟩ := bif_some h'
    cases h'
    rw [hd] at hd''; cases hd''
    exact hag
  · obtain ⟨i, hi, h⟩ := trS_some h
    obtain ⟨d', hd, h⟩ := obind_inv h
    obtain ⟨hb, h⟩ := bif_some h
    cases h
    simp only [fieldsIn, List.all_eq_true] at hb
    have := hb f hf
    rw [Nat.blt_eq] at this
    exact ⟨_, info_of (Array.getElem?_eq_getElem this)⟩
  · exact hg g t h
theorem st0_rel {X : Tabs} (w0 : World) : StRel X (· < w0.heap.size) w0 ⟨[], [], [], [], []⟩ st0 w0 :=
  ⟨rfl, rfl, rfl, rfl, rfl, fun _ h => h, .refl _ _, fun k p h => by simp at h, fun k b h => by simp [st0] at h, fun k b h => by simp [st0] at h, fun k1 k2 b1 b2 id1 sh1 id2 sh2 h => by simp [st0] at h, fun f l h => by simp [st0] at h,
   fun k b h => by simp [st0] at h, fun k b h => by simp [st0] at h, fun k1 k2 o1 o2 p h => by simp [st0] at h, fun k o h => by simp [st0] at h, fun c hc => (by cases hc), fun k b p h => by simp [st0] at h, fun f l h => by simp [st0] at h⟩
/-- What the contracts promise. -/
def ConOK (P : Program) (hm : P.follows .mixedOrders = true) (con : Tr Con) (glob : Tr (Tr AV)) (w0 : World) (Θ : Pred) : Prop :=
  ∀ f c, con.get f = some c → ∀ {args : List AV} {st : St} {k : Kt} {E : Env} {R : List Back} {w : World} {xs : List Value}, StRel (tabs P hm con glob) (· < w0.heap.size) w0 E st w → denL E args = some xs → (c args st k).holds Θ E.va R →
    OpRes P (Out (tabs P hm con glob) (· < w0.heap.size) w0 Θ R E st k) ((callFunc f xs.toArray).run P w)
theorem conOK_nil {hm : P.follows .mixedOrders = true} {glob : Tr (Tr AV)} {w0 : World} {Θ : Pred} : ConOK P hm .nil glob w0 Θ := fun f c h => by simp at h
theorem fns_get {con : Tr Con} {glob : Tr (Tr AV)} {f : Nat} {fi : FnI} (h : (cxWith P con glob).fns.get f = some fi) : ∃ fn c, P.funcs[f]? = some fn ∧ fn.body = some c ∧ cRess (cxWith P con glob).und (cxWith P con glob).size fn.results.toList = some fi.results ∧
    cCode (cxWith P con glob).und (cxWith P con glob).size (cxWith P con glob).zero f c = fi.body ∧ (fn.name == "runtime.NumGoroutine") = false ∧ okCode fn.ntmps c = true := by
  obtain ⟨fn, hfn, h⟩ := trS_some h
  obtain ⟨c, hc, h⟩ := obind_inv h
  obtain ⟨hb, h⟩ := bif_some h
  obtain ⟨r, hr, h⟩ := obind_inv h
  cases h
  simp only [Bool.and_eq_true, Bool.not_eq_true'] at hb
  exact ⟨fn, c, by simpa using hfn, hc, hr, rfl, hb.2, hb.1⟩
theorem cxOf_fns {hm : P.follows .mixedOrders = true} {con : Tr Con} {glob : Tr (Tr AV)} {w0 : World} {Θ : Pred} (h : ConOK P hm con glob w0 Θ) : FnsOK (tabs P hm con glob) (· < w0.heap.size) w0 Θ :=
  ⟨fun _ _ hf => fns_get hf, fun f c hf => h f c hf⟩
noncomputable def hasFn (P : Program) (f : Nat) : Bool := Option.rec false (fun fn => Option.rec false (fun _ => not (fn.name == "runtime.NumGoroutine")) fn.body) (P.funcs[f]?)
theorem hasFn_inv {f : Nat} (h : hasFn P f = true) : ∃ fn, P.funcs[f]? = some fn ∧ fn.body.isSome = true ∧ (fn.name == "runtime.NumGoroutine") = false := by
  unfold hasFn at h
  cases hp : P.funcs[f]? with
  | none => rw [hp] at h; cases h
  | some fn =>
    rw [hp] at h
    cases hb : fn.body with
    | none => simp only [hb] at h; cases h
    | some c => simp only [hb] at h; exact ⟨fn, rfl, by rw [hb]; rfl, by simpa using h⟩
abbrev E0 : Env := ⟨[], [], [], [], []⟩
/-- A call, of nothing, whose condition holds. -/
theorem calls_of_run (hm : P.follows .mixedOrders = true) {con : Tr Con} {glob : Tr (Tr AV)} {Θ : Pred} {n f : Nat} {k : Res → VC} {w0 : World} (hg : GlobOK glob w0) (hcon : ConOK P hm con glob w0 Θ) (h : (runX P con glob n (.call f []) k).holds Θ E0.va []) (hfn : hasFn P f = true) :
    Calls P f #[] w0 fun e w' => ∃ v, e = .returned v ∧ OutV (tabs P hm con glob) (· < w0.heap.size) w0 Θ [] E0 st0 k v w' := by
  rw [runX_eq] at h
  have hr := (run_ok (cxOf_ok P hm con hg) (cxOf_fns hcon) n).call (st0_rel w0) (xs := []) rfl h
  obtain ⟨fn, g1, g2, g3⟩ := hasFn_inv hfn
  rw [callFunc_enter (P := (tabs P hm con glob).P) g1 g2 g3] at hr
  have hr : CallsIn (FW none) 0 P f #[] w0 _ := hr
  refine (CallsIn.calls hr (FW_room none)).mono fun e w' he => ?_
  cases e with
  | returned v => exact ⟨v, rfl, he⟩
  | panicked c => exact he.elim
  | outgrown => exact he.elim
theorem isTrueK_out {X : Tabs} {K : Nat → Prop} {w0 : World} {Θ : Pred} {R : List Back} {E : Env} {st : St} {v : Value} {w' : World} (h : OutV X K w0 Θ R E st isTrueK v w') : v = .bool true ∧ Kept K w0 w' := by
  obtain ⟨v', st', E', R', _, h2, _, h4, _, h6⟩ := h
  refine ⟨?_, h4.kept⟩
  unfold isTrueK at h2
  split at h2
  · rename_i st e
    cases e
    rw [← Option.some.inj h6]
  · rename_i cc st e
    cases e
    obtain ⟨b, hb, hv⟩ := den_cnd h6
    obtain ⟨h7, _⟩ := needK_inv h2 h4.facts hb
    rw [hv, h7]
  · exact h2.elim
/-- A closed call returns true. -/
theorem closed_true (hm : P.follows .mixedOrders = true) {con : Tr Con} {glob : Tr (Tr AV)} {n f : Nat} (h : (runX P con glob n (.call f []) isTrueK).triv = true) (hfn : hasFn P f = true) {w0 : World} (hg : GlobOK glob w0) (hcon : ConOK P hm con glob w0 fun _ _ => True) :
    Calls P f #[] w0 fun e w' => e = .returned (.bool true) ∧ Below w0.heap.size w0 w' :=
  (calls_of_run hm hg hcon (triv_holds h) hfn).mono fun e w' ⟨v, he, ho⟩ => by
    obtain ⟨h1, h2⟩ := isTrueK_out ho
    subst h1
    exact ⟨he, Kept.below h2⟩
end
end Go.Sy
