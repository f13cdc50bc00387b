import Derived.Test.YtkmmjjkkbjcadagDoorSyW
import Derived.ChangeArms
import Derived.MakeChecks
/-! What the package's variables hold. -/
namespace Go.Sy
noncomputable def litAV : DataW Unit → Option AV
  | .lit (.int k n) => ofInt k n
  | .lit (.string l) => some (.str l.length (l.map UInt8.toNat))
  | _ => none
noncomputable def litAVs (l : List (DataW Unit)) : Option (List AV) := List.rec (motive := fun _ => Option (List AV)) (some []) (fun d _ ih => obind (litAV d) fun v => obind ih fun r => some (v :: r)) l
noncomputable def partsOf : DataW Unit → List (DataW Unit)
  | .agg l => l
  | _ => []
noncomputable def globOf (P : Program) (l : List (String × DataW Unit)) : Tr (Tr AV) :=
  List.rec (motive := fun _ => Tr (Tr AV)) .nil (fun x _ ih => Option.rec ih (fun g => Option.rec ih (fun vs => ih.set g (some (puts vs 0 .nil))) (litAVs (partsOf x.2))) (P.globalNamed x.1)) l
noncomputable def elemOK (P : Program) (e : TypeId) : Bool := match P.underlying e with
  | some (.int _) => Nat.beq (P.cellsOf e) 1
  | some .string => Nat.beq (P.cellsOf e) 1
  | _ => false
noncomputable def globWf (P : Program) (l : List (String × DataW Unit)) : Bool := l.all fun x => match P.globalNamed x.1 with
  | some g => match (P.globals[g]?).map (·.type) with
    | some t => match P.underlying t with
      | some (.array n e) => elemOK P e && Nat.beq (partsOf x.2).length n
      | _ => false
    | none => false
  | none => false
section
variable {P : Program} {W : World}
theorem litAVs_get : ∀ {l : List (DataW Unit)} {vs : List AV}, litAVs l = some vs → ∀ {i : Nat} {v : AV}, vs[i]? = some v → ∃ d, l[i]? = some d ∧ litAV d = some v
  | [], vs, h, i, v, hv => by cases h; simp at hv
  | d :: l, vs, h, i, v, hv => by
    change obind (litAV d) (fun v => obind (litAVs l) fun r => some (v :: r)) = some vs at h
    obtain ⟨v0, h1, h⟩ := obind_inv h
    obtain ⟨r, h2, h⟩ := obind_inv h
    cases h
    cases i with
    | zero => simp at hv; subst hv; exact ⟨d, rfl, h1⟩
    | succ i => obtain ⟨d', h3, h4⟩ := litAVs_get h2 (i := i) (v := v) (by simpa using hv); exact ⟨d', by simpa using h3, h4⟩
theorem lit_cell {e : TypeId} (he : elemOK P e = true) {c : List Value} {enc : TypeId × Value → Unit} {b : Nat} {sp : Nat → Bool} {hd : Bool} {f : Nat} {d : DataW Unit} {p : List MemPlace} (h : DataW.trod enc P W b sp hd f e c = some (d, p)) {v : AV} (hv : litAV d = some v) : ∃ x, c = [x] ∧ ∀ E, v.den E = some x := by
  unfold elemOK at he
  split at he
  · rename_i k hk
    obtain ⟨n, rfl, hx, _⟩ := DataW.trod_int hk h
    cases hx
    exact ⟨_, rfl, fun E => den_ofCell (v := .int k n) hv⟩
  · rename_i hk
    obtain ⟨s, rfl, hx, _⟩ := DataW.trod_string hk h
    cases hx
    refine ⟨_, rfl, fun E => ?_⟩
    have hv' : ofCell (.string s) = some v := by
      rw [← hv]
      show some (AV.str s.size (s.data.toList.map UInt8.toNat)) = some (AV.str s.data.toList.length (s.data.toList.map UInt8.toNat))
      rw [Array.length_toList]; rfl
    exact den_ofCell hv'
  · cases he
theorem glob_laid {enc : TypeId × Value → Unit} : ∀ {l : List (String × DataW Unit)} {ps : List MemPlace}, DataW.LaidVars P W l ps → globWf P l = true → GlobOK (globOf P l) W
  | [], ps, _, _ => globOK_nil W
  | (nm, d) :: l, ps, h, hw => by
    simp only [globWf, List.all_cons, Bool.and_eq_true] at hw
    obtain ⟨g, t, cs, f, p, q, hg, ht, hv, htr, hrest, _⟩ := h
    have ih := glob_laid (enc := enc) hrest (by simpa [globWf] using hw.2)
    have hw1 := hw.1
    simp only [hg] at hw1
    rw [ht] at hw1
    simp only at hw1
    change GlobOK (Option.rec (globOf P l) (fun g => Option.rec (globOf P l) (fun vs => (globOf P l).set g (some (puts vs 0 .nil))) (litAVs (partsOf d))) (P.globalNamed nm)) W
    rw [hg]
    change GlobOK (Option.rec (globOf P l) (fun vs => (globOf P l).set g (some (puts vs 0 .nil))) (litAVs (partsOf d))) W
    cases hl : litAVs (partsOf d) with
    | none => exact ih
    | some vs =>
      intro g' t' hg'
      change ((globOf P l).set g (some (puts vs 0 .nil))).get g' = some t' at hg'
      rw [Tr.get_set] at hg'
      by_cases c : g = g'
      · subst c
        rw [if_pos rfl] at hg'
        cases hg'
        cases hu : P.underlying t with
        | none => rw [hu] at hw1; cases hw1
        | some du =>
          rw [hu] at hw1
          cases du <;> try (cases hw1; done)
          rename_i n e
          simp only [Bool.and_eq_true, beq_iff, decide_eq_true_eq] at hw1
          obtain ⟨he, hn⟩ := hw1
          obtain ⟨xs, m, rfl, hx, hlen, hxn, hel⟩ := DataW.trod_array hu htr
          have hd : d = .agg (xs.map (·.1)) := by simpa using congrArg Prod.fst hx
          have hc1 : P.cellsOf e = 1 := by
            unfold elemOK at he
            split at he <;> first | (cases he; done) | (rw [beq_iff, decide_eq_true_eq] at he; exact he)
          refine ⟨?_, fun i v hi => ?_⟩
          · have := World.var?_cell hg hv 0
            simp only [World.var?, hg, Option.bind_some] at hv
            split at hv
            · rename_i hh; exact (Array.getElem?_eq_some_iff.1 hh).1
            · cases hv
          · rw [puts_get] at hi
            split at hi
            · rename_i hlt
              rw [Nat.sub_zero] at hi
              obtain ⟨di, hdi, hli⟩ := litAVs_get hl hi
              rw [hd] at hdi
              simp only [partsOf, List.getElem?_map, Option.map_eq_some_iff] at hdi
              obtain ⟨xi, hxi, hfst⟩ := hdi
              obtain ⟨dd, pp⟩ := xi
              simp only at hfst
              subst hfst
              have hin : i < n := by have := (List.getElem?_eq_some_iff.1 hxi).1; omega
              have h1 := hel i hin
              rw [hxi, hc1, Nat.mul_one] at h1
              obtain ⟨x, hx1, hx2⟩ := lit_cell he h1 hli
              refine ⟨x, hx2, ?_⟩
              rw [World.var?_cell hg hv i]
              have : (cs.toList.drop i).take 1 = [x] := hx1
              have h3 : ((cs.toList.drop i).take 1)[0]? = some x := by rw [this]; rfl
              rw [List.getElem?_take_of_lt (by decide), List.getElem?_drop] at h3
              simpa using h3
            · simp at hi
      · rw [if_neg c] at hg'
        exact ih g' t' hg'
theorem glob_met {l : List (String × DataW Unit)} (hp : (l.all fun x => x.2.handleName?.isNone) = true) (hw : globWf P l = true) (h : laidMetH P l W) : GlobOK (globOf P l) W := by
  rw [MakeChecks.laidMetH_plain _ _ _ hp] at h
  obtain ⟨ps, h, _⟩ := h
  exact glob_laid (enc := fun _ => ()) h hw
end
end Go.Sy
