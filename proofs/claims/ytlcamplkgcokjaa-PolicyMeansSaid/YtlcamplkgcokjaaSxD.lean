import Derived.Test.YtlcamplkgcokjaaSxC
import Derived.Orders
/-! Statements whose order is drawn: the plan. -/
namespace Go.Sx
open Go.RowKit (Below)

/-! ### The plan's facts -/
theorem maskOf_spec {acc : List Nat} {i : Nat} : ∀ {l : List Edge} {m : Nat}, maskOf acc i l = some m →
    (∀ e ∈ l, bindsE e = true → e.on < i) ∧ ∀ j, Nat.testBit m j = true → ∃ e ∈ l, bindsE e = true ∧ (j = e.on ∨ ∃ b, acc[e.on]? = some b ∧ Nat.testBit b j = true)
  | [], m, h => by
    cases h
    exact ⟨by simp, fun j hj => by simp at hj⟩
  | e :: l, m, h => by
    change obind (maskOf acc i l) _ = some m at h
    obtain ⟨m0, h0, h⟩ := obind_inv h
    obtain ⟨g1, g2⟩ := maskOf_spec h0
    cases hb : bindsE e with
    | false =>
      rw [hb] at h
      cases h
      refine ⟨fun x hx hxb => ?_, fun j hj => ?_⟩
      · rcases List.mem_cons.1 hx with rfl | hx
        · rw [hb] at hxb; cases hxb
        · exact g1 x hx hxb
      · obtain ⟨x, hx, r⟩ := g2 j hj
        exact ⟨x, List.mem_cons_of_mem _ hx, r⟩
    | true =>
      rw [hb] at h
      change bif_ _ _ none = some m at h
      obtain ⟨hlt, h⟩ := bif_some h
      obtain ⟨b, hbb, h⟩ := obind_inv h
      rw [getL_eq] at hbb
      cases h
      have hlt' : e.on < i := by simpa [Nat.blt_eq] using hlt
      refine ⟨fun x hx hxb => ?_, fun j hj => ?_⟩
      · rcases List.mem_cons.1 hx with rfl | hx
        · exact hlt'
        · exact g1 x hx hxb
      · change Nat.testBit (m0 ||| (2 ^ e.on ||| b)) j = true at hj
        rw [Nat.testBit_or, Nat.testBit_or, Nat.testBit_two_pow] at hj
        simp only [Bool.or_eq_true, decide_eq_true_eq] at hj
        rcases hj with hj | hj | hj
        · obtain ⟨x, hx, r⟩ := g2 j hj
          exact ⟨x, List.mem_cons_of_mem _ hx, r⟩
        · exact ⟨e, by simp, hb, .inl hj.symm⟩
        · exact ⟨e, by simp, hb, .inr ⟨b, hbb, hj⟩⟩

theorem befsOf_spec : ∀ {l : List Oper} {acc befs : List Nat}, befsOf l acc = some befs →
    (∃ more, befs = acc ++ more ∧ more.length = l.length) ∧ ∀ j o, l[j]? = some o → ∃ m, befs[acc.length + j]? = some m ∧ maskOf (befs.take (acc.length + j)) (acc.length + j) o.after.toList = some m
  | [], acc, befs, h => by
    cases h
    exact ⟨⟨[], by simp⟩, fun j o ho => by simp at ho⟩
  | o :: l, acc, befs, h => by
    change obind (maskOf acc (lenL acc) o.after.toList) (fun m => befsOf l (acc ++ [m])) = some befs at h
    obtain ⟨m, hm, h⟩ := obind_inv h
    rw [lenL_eq] at hm
    obtain ⟨⟨more, hmore, hlen⟩, g⟩ := befsOf_spec h
    refine ⟨⟨m :: more, by simp [hmore], by simp [hlen]⟩, fun j o' ho => ?_⟩
    cases j with
    | zero =>
      simp only [List.getElem?_cons_zero, Option.some.injEq] at ho
      subst ho
      refine ⟨m, ?_, ?_⟩
      · rw [hmore]; simp
      · rw [hmore]; simpa using hm
    | succ j =>
      simp only [List.getElem?_cons_succ] at ho
      have := g j o' ho
      simpa [Nat.add_assoc, Nat.add_comm, Nat.add_left_comm] using this

/-- Whether number j stands before number i. -/
def bef (befs : List Nat) (i j : Nat) : Bool := Nat.testBit ((befs[i]?).getD 0) j

structure PlanOK (ops : List Oper) (p : Plan) : Prop where
  edge : ∀ (i : Nat) (o : Oper), ops[i]? = some o → ∀ e ∈ o.after.toList, bindsE e = true → e.on < i
  bits : ∀ (i : Nat) (o : Oper), ops[i]? = some o → ∀ j, bef p.befs i j = true → ∃ e ∈ o.after.toList, bindsE e = true ∧ (j = e.on ∨ bef p.befs e.on j = true)
  slots : ∀ (i j : Nat) (o o' : Oper) (d : Nat), ops[i]? = some o → ops[j]? = some o' → o'.dst = some d → d ∈ namesOf ops o → (j < i → bef p.befs i j = true) ∧ (i < j → bef p.befs j i = true)
  effs : p.effs = effsOf ops 0
  chain : ∀ k i j, p.effs[k]? = some i → p.effs[k + 1]? = some j → bef p.befs j i = true
  some_ : ∀ (i : Nat) (o : Oper), ops[i]? = some o → ∃ b, p.befs[i]? = some b

theorem memN_iff {n : Nat} : ∀ {l : List Nat}, memN n l = true ↔ n ∈ l
  | [] => by simp [memN]
  | x :: l => by
    change (Bool.rec (memN n l) true (Nat.beq x n) : Bool) = true ↔ _
    rw [beq_iff]
    by_cases e : x = n
    · subst e; simp
    · rw [decide_eq_false e]
      show memN n l = true ↔ _
      rw [memN_iff]
      simp [Ne.symm e]

theorem slotsOK_spec {befs : List Nat} {i bi : Nat} {names : List Nat} : ∀ {l : List Oper} {j0 : Nat}, slotsOK befs i bi names l j0 = true →
    ∀ j o d, l[j]? = some o → o.dst = some d → d ∈ names → (j0 + j < i → Nat.testBit bi (j0 + j) = true) ∧ (i < j0 + j → bef befs (j0 + j) i = true)
  | [], j0, _, j, o, d, ho, _, _ => by simp at ho
  | x :: l, j0, h, j, o, d, ho, hd, hm => by
    simp only [slotsOK, Bool.and_eq_true] at h
    cases j with
    | succ j =>
      simp only [List.getElem?_cons_succ] at ho
      have := slotsOK_spec h.2 j o d ho hd hm
      simpa [Nat.add_assoc, Nat.add_comm, Nat.add_left_comm] using this
    | zero =>
      simp only [List.getElem?_cons_zero, Option.some.injEq] at ho
      subst ho
      have h1 := h.1
      rw [hd] at h1
      simp only [memN_iff.2 hm, bif_true] at h1
      refine ⟨fun hlt => ?_, fun hlt => ?_⟩
      · have : Nat.blt j0 i = true := by rw [Nat.blt_eq]; omega
        rw [this] at h1; simpa using h1
      · have e1 : Nat.blt j0 i = false := by
          cases e : Nat.blt j0 i with
          | false => rfl
          | true => rw [Nat.blt_eq] at e; omega
        have e2 : Nat.beq j0 i = false := by rw [beq_iff]; exact decide_eq_false (by omega)
        rw [e1, e2] at h1
        simp only [bif_false] at h1
        rw [getL_eq] at h1
        unfold bef
        rw [Nat.add_zero]
        cases hb : befs[j0]? with
        | none => rw [hb] at h1; cases h1
        | some b => rw [hb] at h1; exact h1

theorem allSlots_spec {befs : List Nat} {all : List Oper} : ∀ {l : List Oper} {i0 : Nat}, allSlots befs all l i0 = true →
    ∀ i o, l[i]? = some o → ∃ bi, befs[i0 + i]? = some bi ∧ slotsOK befs (i0 + i) bi (namesOf all o) all 0 = true
  | [], _, _, i, o, ho => by simp at ho
  | x :: l, i0, h, i, o, ho => by
    simp only [allSlots, Bool.and_eq_true] at h
    cases i with
    | succ i =>
      simp only [List.getElem?_cons_succ] at ho
      have := allSlots_spec h.2 i o ho
      simpa [Nat.add_assoc, Nat.add_comm, Nat.add_left_comm] using this
    | zero =>
      simp only [List.getElem?_cons_zero, Option.some.injEq] at ho
      subst ho
      have h1 := h.1
      rw [getL_eq] at h1
      cases hb : befs[i0]? with
      | none => rw [hb] at h1; cases h1
      | some b => rw [hb] at h1; exact ⟨b, rfl, by simpa using h1⟩

theorem chainOK_spec {befs : List Nat} : ∀ {l : List Nat}, chainOK befs l = true → ∀ k i j, l[k]? = some i → l[k + 1]? = some j → bef befs j i = true
  | [], _, k, i, j, h, _ => by simp at h
  | [x], _, k, i, j, _, h => by simp at h
  | x :: y :: l, h, k, i, j, hi, hj => by
    simp only [chainOK, Bool.and_eq_true] at h
    cases k with
    | succ k =>
      simp only [List.getElem?_cons_succ] at hi hj
      exact chainOK_spec h.2 k i j (by simpa using hi) (by simpa using hj)
    | zero =>
      simp only [List.getElem?_cons_zero, List.getElem?_cons_succ, Option.some.injEq] at hi hj
      subst hi; subst hj
      have h1 := h.1
      rw [getL_eq] at h1
      unfold bef
      cases hb : befs[y]? with
      | none => rw [hb] at h1; cases h1
      | some b => rw [hb] at h1; exact h1

theorem planOf_ok {ops : List Oper} {p : Plan} (h : planOf ops = some p) : PlanOK ops p := by
  obtain ⟨befs, hb, h⟩ := obind_inv h
  obtain ⟨h1, h2⟩ := bif_some h
  cases h2
  simp only [Bool.and_eq_true] at h1
  have hs := befsOf_spec hb
  have key : ∀ (i : Nat) (o : Oper), ops[i]? = some o → ∃ m, befs[i]? = some m ∧ maskOf (befs.take i) i o.after.toList = some m := fun i o ho => by simpa using hs.2 i o ho
  refine ⟨fun i o ho => ?_, fun i o ho j hj => ?_, fun i j o o' d ho ho' hd hm => ?_, rfl, chainOK_spec h1.2, fun i o ho => let ⟨m, h, _⟩ := key i o ho; ⟨m, h⟩⟩
  · obtain ⟨m, _, g⟩ := key i o ho
    exact (maskOf_spec g).1
  · obtain ⟨m, g0, g⟩ := key i o ho
    unfold bef at hj
    rw [show (befs[i]?).getD 0 = m by rw [g0]; rfl] at hj
    obtain ⟨e, he, hbe, r⟩ := (maskOf_spec g).2 j hj
    refine ⟨e, he, hbe, r.imp id fun ⟨b, r1, r2⟩ => ?_⟩
    have hlt := (maskOf_spec g).1 e he hbe
    rw [List.getElem?_take_of_lt hlt] at r1
    unfold bef
    rw [r1]; exact r2
  · obtain ⟨bi, g0, g⟩ := allSlots_spec h1.1 i o ho
    have := slotsOK_spec g j o' d ho' hd hm
    simp only [Nat.zero_add] at this g0
    refine ⟨fun hlt => ?_, this.2⟩
    unfold bef
    rw [g0]; exact this.1 hlt

section
variable {ops : List Oper} {p : Plan}
theorem bef_lt (hp : PlanOK ops p) : ∀ (i : Nat) (o : Oper), ops[i]? = some o → ∀ j, bef p.befs i j = true → j < i := by
  intro i
  induction i using Nat.strongRecOn with
  | _ i ih =>
    intro o ho j hj
    obtain ⟨e, he, hb, r⟩ := hp.bits i o ho j hj
    have hlt := hp.edge i o ho e he hb
    rcases r with rfl | r
    · exact hlt
    · have hlen : e.on < ops.length := by have := (List.getElem?_eq_some_iff.1 ho).1; omega
      exact Nat.lt_trans (ih e.on hlt _ (List.getElem?_eq_getElem hlen) j r) hlt

/-- Closed under what binds. -/
def Closed (ops : List Oper) (L : Nat → Bool) : Prop := ∀ (i : Nat) (o : Oper), ops[i]? = some o → L i = true → ∀ e ∈ o.after.toList, bindsE e = true → L e.on = true

theorem closed_edges (hp : PlanOK ops p) {L : Nat → Bool} (hL : Closed ops L) : ∀ (i : Nat) (o : Oper), ops[i]? = some o → (∀ e ∈ o.after.toList, bindsE e = true → L e.on = true) → ∀ j, bef p.befs i j = true → L j = true := by
  intro i
  induction i using Nat.strongRecOn with
  | _ i ih =>
    intro o ho hl j hj
    obtain ⟨e, he, hb, r⟩ := hp.bits i o ho j hj
    have hlt := hp.edge i o ho e he hb
    rcases r with rfl | r
    · exact hl e he hb
    · have hlen : e.on < ops.length := by have := (List.getElem?_eq_some_iff.1 ho).1; omega
      exact ih e.on hlt _ (List.getElem?_eq_getElem hlen) (hL _ _ (List.getElem?_eq_getElem hlen) (hl e he hb)) j r
theorem closed_bef (hp : PlanOK ops p) {L : Nat → Bool} (hL : Closed ops L) {i j : Nat} {o : Oper} (ho : ops[i]? = some o) (hi : L i = true) (hj : bef p.befs i j = true) : L j = true :=
  closed_edges hp hL i o ho (hL i o ho hi) j hj
end

/-! ### Counting -/
noncomputable def cnt : List Oper → Nat → Nat
  | [], _ => 0
  | _, 0 => 0
  | o :: l, i + 1 => (if isEff o.op = true then 1 else 0) + cnt l i
@[simp] theorem cnt_zero (l : List Oper) : cnt l 0 = 0 := by cases l <;> rfl
theorem cnt_succ : ∀ {l : List Oper} {i : Nat} {o : Oper}, l[i]? = some o → cnt l (i + 1) = cnt l i + (if isEff o.op = true then 1 else 0)
  | [], i, o, h => by simp at h
  | x :: l, 0, o, h => by simp at h; subst h; simp [cnt]
  | x :: l, i + 1, o, h => by
    simp only [List.getElem?_cons_succ] at h
    have := cnt_succ h
    simp only [cnt] at this ⊢
    omega
theorem cnt_mono (l : List Oper) : ∀ {i j : Nat}, i ≤ j → j ≤ l.length → cnt l i ≤ cnt l j := by
  intro i j h
  induction h with
  | refl => intro _; exact Nat.le_refl _
  | step h ih =>
    intro hl
    refine Nat.le_trans (ih (by omega)) ?_
    rw [cnt_succ (List.getElem?_eq_getElem (by omega : _ < l.length))]
    omega
theorem cnt_lt {l : List Oper} {i j : Nat} {o : Oper} (ho : l[i]? = some o) (he : isEff o.op = true) (h : i < j) (hj : j ≤ l.length) : cnt l i < cnt l j := by
  have h1 := cnt_succ ho
  rw [if_pos he] at h1
  have := cnt_mono l (i := i + 1) (j := j) h hj
  omega
theorem cnt_inj {l : List Oper} {i j : Nat} {o o' : Oper} (ho : l[i]? = some o) (he : isEff o.op = true) (ho' : l[j]? = some o') (he' : isEff o'.op = true) (h : cnt l i = cnt l j) : i = j := by
  have hi := (List.getElem?_eq_some_iff.1 ho).1
  have hj := (List.getElem?_eq_some_iff.1 ho').1
  rcases Nat.lt_trichotomy i j with c | c | c
  · have := cnt_lt ho he c (by omega); omega
  · exact c
  · have := cnt_lt ho' he' c (by omega); omega

theorem effsOf_spec : ∀ (l : List Oper) (b : Nat), (effsOf l b).length = cnt l l.length ∧ (∀ i o, l[i]? = some o → isEff o.op = true → (effsOf l b)[cnt l i]? = some (b + i)) ∧
    ∀ k e, (effsOf l b)[k]? = some e → ∃ i o, e = b + i ∧ l[i]? = some o ∧ isEff o.op = true ∧ cnt l i = k
  | [], b => ⟨rfl, fun i o h => by simp at h, fun k e h => by simp [effsOf] at h⟩
  | x :: l, b => by
    obtain ⟨g1, g2, g3⟩ := effsOf_spec l (b + 1)
    by_cases hx : isEff x.op = true
    · have e : effsOf (x :: l) b = b :: effsOf l (b + 1) := by simp [effsOf, hx]
      refine ⟨by simp [e, cnt, hx, g1]; omega, fun i o ho he => ?_, fun k y hy => ?_⟩
      · cases i with
        | zero => simp [e]
        | succ i =>
          simp only [List.getElem?_cons_succ] at ho
          have := g2 i o ho he
          simp only [cnt, hx, if_true, e, Nat.add_comm 1, List.getElem?_cons_succ, this]
          congr 1; omega
      · rw [e] at hy
        cases k with
        | zero => simp at hy; subst hy; exact ⟨0, x, by simp, by simp, hx, by simp⟩
        | succ k =>
          simp only [List.getElem?_cons_succ] at hy
          obtain ⟨i, o, h1, h2, h3, h4⟩ := g3 k y hy
          exact ⟨i + 1, o, by omega, by simpa using h2, h3, by simp [cnt, hx]; omega⟩
    · have hx' : isEff x.op = false := by simpa using hx
      have e : effsOf (x :: l) b = effsOf l (b + 1) := by simp [effsOf, hx']
      refine ⟨by simp [e, cnt, hx', g1], fun i o ho he => ?_, fun k y hy => ?_⟩
      · cases i with
        | zero => simp at ho; subst ho; rw [hx'] at he; cases he
        | succ i =>
          simp only [List.getElem?_cons_succ] at ho
          have := g2 i o ho he
          simp only [cnt, hx', Bool.false_eq_true, if_false, Nat.zero_add, e, this]
          congr 1; omega
      · rw [e] at hy
        obtain ⟨i, o, h1, h2, h3, h4⟩ := g3 k y hy
        exact ⟨i + 1, o, by omega, by simpa using h2, h3, by simp [cnt, hx']; omega⟩

theorem countL_le {f : Nat → Bool} : ∀ {l : List Nat} {s : Nat}, (∀ (k : Nat) (e : Nat), l[k]? = some e → f e = true → k < s) → countL f l ≤ s
  | [], s, _ => Nat.zero_le _
  | x :: l, s, h => by
    simp only [countL]
    cases hx : f x with
    | true =>
      have h0 := h 0 x (by simp) hx
      have := countL_le (f := f) (l := l) (s := s - 1) fun k e he hf => by have := h (k + 1) e (by simpa using he) hf; omega
      simp only [bif_true]
      omega
    | false =>
      simp only [bif_false]
      have := countL_le (f := f) (l := l) (s := s - 1) fun k e he hf => by have := h (k + 1) e (by simpa using he) hf; omega
      omega
theorem le_countL {f : Nat → Bool} : ∀ {l : List Nat} {s : Nat}, s ≤ l.length → (∀ (k : Nat) (e : Nat), l[k]? = some e → k < s → f e = true) → s ≤ countL f l
  | [], s, h, _ => by simp at h; omega
  | x :: l, 0, _, _ => Nat.zero_le _
  | x :: l, s + 1, h, g => by
    simp only [countL]
    rw [g 0 x (by simp) (by omega)]
    simp only [bif_true]
    have := le_countL (f := f) (l := l) (s := s) (by simpa using h) fun k e he hk => g (k + 1) e (by simpa using he) (by omega)
    omega
end Go.Sx
