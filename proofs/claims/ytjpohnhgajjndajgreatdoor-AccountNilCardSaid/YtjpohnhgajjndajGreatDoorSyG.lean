import Derived.Test.YtjpohnhgajjndajGreatDoorSyFB
import Derived.OrdersIn
/-! Statements whose order is drawn: what stands before what. -/
namespace Go.Sy

theorem maskOf_spec {acc : List Nat} {i : Nat} : ∀ {l : List Edge} {m : Nat}, maskOf acc i l = some m →
    (∀ e ∈ l, bindsE e = true → e.on < i) ∧ ∀ j, Nat.testBit m j = true → ∃ e ∈ l, bindsE e = true ∧ (j = e.on ∨ ∃ b, acc[e.on]? = some b ∧ Nat.testBit b j = true)
  | [], m, h => by
    cases h
    exact ⟨by simp, fun j hj => by simp at hj⟩
  | e :: l, m, h => by
    change obind (maskOf acc i l) _ = some m at h
    obtain ⟨m0, h0, h⟩ := obind_inv h
    obtain ⟨g1, g2⟩ := maskOf_spec h0
    cases hb : bindsE e with
    | false =>
      rw [hb] at h
      cases h
      refine ⟨fun x hx hxb => ?_, fun j hj => ?_⟩
      · rcases List.mem_cons.1 hx with rfl | hx
        · rw [hb] at hxb; cases hxb
        · exact g1 x hx hxb
      · obtain ⟨x, hx, r⟩ := g2 j hj
        exact ⟨x, List.mem_cons_of_mem _ hx, r⟩
    | true =>
      rw [hb] at h
      change bif_ _ _ none = some m at h
      obtain ⟨hlt, h⟩ := bif_some h
      obtain ⟨b, hbb, h⟩ := obind_inv h
      rw [getL_eq] at hbb
      cases h
      have hlt' : e.on < i := by simpa [Nat.blt_eq] using hlt
      refine ⟨fun x hx hxb => ?_, fun j hj => ?_⟩
      · rcases List.mem_cons.1 hx with rfl | hx
        · exact hlt'
        · exact g1 x hx hxb
      · change Nat.testBit (m0 ||| (2 ^ e.on ||| b)) j = true at hj
        rw [Nat.testBit_or, Nat.testBit_or, Nat.testBit_two_pow] at hj
        simp only [Bool.or_eq_true, decide_eq_true_eq] at hj
        rcases hj with hj | hj | hj
        · obtain ⟨x, hx, r⟩ := g2 j hj
          exact ⟨x, List.mem_cons_of_mem _ hx, r⟩
        · exact ⟨e, by simp, hb, .inl hj.symm⟩
        · exact ⟨e, by simp, hb, .inr ⟨b, hbb, hj⟩⟩

theorem befsOf_spec : ∀ {l : List Oper} {acc befs : List Nat}, befsOf l acc = some befs →
    (∃ more, befs = acc ++ more ∧ more.length = l.length) ∧ ∀ j o, l[j]? = some o → ∃ m, befs[acc.length + j]? = some m ∧ maskOf (befs.take (acc.length + j)) (acc.length + j) o.after.toList = some m
  | [], acc, befs, h => by
    cases h
    exact ⟨⟨[], by simp⟩, fun j o ho => by simp at ho⟩
  | o :: l, acc, befs, h => by
    change obind (maskOf acc (lenL acc) o.after.toList) (fun m => befsOf l (acc ++ [m])) = some befs at h
    obtain ⟨m, hm, h⟩ := obind_inv h
    rw [lenL_eq] at hm
    obtain ⟨⟨more, hmore, hlen⟩, g⟩ := befsOf_spec h
    refine ⟨⟨m :: more, by simp [hmore], by simp [hlen]⟩, fun j o' ho => ?_⟩
    cases j with
    | zero =>
      simp only [List.getElem?_cons_zero, Option.some.injEq] at ho
      subst ho
      refine ⟨m, ?_, ?_⟩
      · rw [hmore]; simp
      · rw [hmore]; simpa using hm
    | succ j =>
      simp only [List.getElem?_cons_succ] at ho
      have := g j o' ho
      simpa [Nat.add_assoc, Nat.add_comm, Nat.add_left_comm] using this

/-- Whether number j stands before number i. -/
def bef (befs : List Nat) (i j : Nat) : Bool := Nat.testBit ((befs[i]?).getD 0) j


structure PlanOK (ops : List Oper) (befs : List Nat) : Prop where
  edge : ∀ (i : Nat) (o : Oper), ops[i]? = some o → ∀ e ∈ o.after.toList, bindsE e = true → e.on < i
  bits : ∀ (i : Nat) (o : Oper), ops[i]? = some o → ∀ j, bef befs i j = true → ∃ e ∈ o.after.toList, bindsE e = true ∧ (j = e.on ∨ bef befs e.on j = true)
  slots : ∀ (i j : Nat) (o o' : Oper) (d : Nat), ops[i]? = some o → ops[j]? = some o' → o'.dst = some d → d ∈ namesOf ops o → (j < i → bef befs i j = true) ∧ (i < j → bef befs j i = true)
  once : ∀ (i j : Nat) (o o' : Oper) (d : Nat), ops[i]? = some o → ops[j]? = some o' → o.dst = some d → o'.dst = some d → i = j
  some_ : ∀ (i : Nat) (o : Oper), ops[i]? = some o → ∃ b, befs[i]? = some b
  len : befs.length = ops.length
theorem memN_iff' {n : Nat} {l : List Nat} : memN n l = true ↔ n ∈ l := memN_iff n l
theorem slotsOK_spec {befs : List Nat} {i bi : Nat} {names : List Nat} : ∀ {l : List Oper} {j0 : Nat}, slotsOK befs i bi names l j0 = true →
    ∀ j o d, l[j]? = some o → o.dst = some d → d ∈ names → (j0 + j < i → Nat.testBit bi (j0 + j) = true) ∧ (i < j0 + j → bef befs (j0 + j) i = true)
  | [], j0, _, j, o, d, ho, _, _ => by simp at ho
  | x :: l, j0, h, j, o, d, ho, hd, hm => by
    simp only [slotsOK, Bool.and_eq_true] at h
    cases j with
    | succ j =>
      simp only [List.getElem?_cons_succ] at ho
      have := slotsOK_spec h.2 j o d ho hd hm
      simpa [Nat.add_assoc, Nat.add_comm, Nat.add_left_comm] using this
    | zero =>
      simp only [List.getElem?_cons_zero, Option.some.injEq] at ho
      subst ho
      have h1 := h.1
      rw [hd] at h1
      simp only [memN_iff'.2 hm, bif_true] at h1
      refine ⟨fun hlt => ?_, fun hlt => ?_⟩
      · have : Nat.blt j0 i = true := by rw [Nat.blt_eq]; omega
        rw [this] at h1; simpa using h1
      · have e1 : Nat.blt j0 i = false := by
          cases e : Nat.blt j0 i with
          | false => rfl
          | true => rw [Nat.blt_eq] at e; omega
        have e2 : Nat.beq j0 i = false := by rw [beq_iff]; exact decide_eq_false (by omega)
        rw [e1, e2] at h1
        simp only [bif_false] at h1
        rw [getL_eq] at h1
        unfold bef
        rw [Nat.add_zero]
        cases hb : befs[j0]? with
        | none => rw [hb] at h1; cases h1
        | some b => rw [hb] at h1; exact h1

theorem allSlots_spec {befs : List Nat} {all : List Oper} : ∀ {l : List Oper} {i0 : Nat}, allSlots befs all l i0 = true →
    ∀ i o, l[i]? = some o → ∃ bi, befs[i0 + i]? = some bi ∧ slotsOK befs (i0 + i) bi (namesOf all o) all 0 = true
  | [], _, _, i, o, ho => by simp at ho
  | x :: l, i0, h, i, o, ho => by
    simp only [allSlots, Bool.and_eq_true] at h
    cases i with
    | succ i =>
      simp only [List.getElem?_cons_succ] at ho
      have := allSlots_spec h.2 i o ho
      simpa [Nat.add_assoc, Nat.add_comm, Nat.add_left_comm] using this
    | zero =>
      simp only [List.getElem?_cons_zero, Option.some.injEq] at ho
      subst ho
      have h1 := h.1
      rw [getL_eq] at h1
      cases hb : befs[i0]? with
      | none => rw [hb] at h1; cases h1
      | some b => rw [hb] at h1; exact ⟨b, rfl, by simpa using h1⟩


theorem onceD_spec : ∀ {ops : List Oper}, onceD ops = true → ∀ (i j : Nat) (o o' : Oper) (d : Nat), ops[i]? = some o → ops[j]? = some o' → o.dst = some d → o'.dst = some d → i = j
  | [], _, i, _, o, _, _, h, _, _, _ => by simp at h
  | x :: l, h, i, j, o, o', d, hi, hj, hd, hd' => by
    simp only [onceD, Bool.and_eq_true] at h
    obtain ⟨h1, h2⟩ := h
    have hno : ∀ q ∈ l, ∀ d, x.dst = some d → q.dst ≠ some d := by
      intro q hq d hx hqd
      rw [hx] at h1
      simp only [Bool.not_eq_true', List.any_eq_false] at h1
      have := h1 q hq
      rw [dstOf, hqd] at this
      exact this (by rw [memN_iff']; simp)
    cases i with
    | zero =>
      simp at hi; subst hi
      cases j with
      | zero => rfl
      | succ j => exact absurd hd' (hno o' (List.mem_of_getElem? (by simpa using hj)) d hd)
    | succ i =>
      cases j with
      | zero =>
        simp at hj; subst hj
        exact absurd hd (hno o (List.mem_of_getElem? (by simpa using hi)) d hd')
      | succ j => rw [onceD_spec h2 i j o o' d (by simpa using hi) (by simpa using hj) hd hd']
theorem plan_ok {ops : List Oper} {befs : List Nat} (hb : befsOf ops [] = some befs) (h1 : (allSlots befs ops ops 0 && onceD ops) = true) : PlanOK ops befs := by
  simp only [Bool.and_eq_true] at h1
  have hs := befsOf_spec hb
  have key : ∀ (i : Nat) (o : Oper), ops[i]? = some o → ∃ m, befs[i]? = some m ∧ maskOf (befs.take i) i o.after.toList = some m := fun i o ho => by simpa using hs.2 i o ho
  refine ⟨fun i o ho => ?_, fun i o ho j hj => ?_, fun i j o o' d ho ho' hd hm => ?_, onceD_spec h1.2, fun i o ho => let ⟨m, h, _⟩ := key i o ho; ⟨m, h⟩, ?_⟩
  · obtain ⟨m, _, g⟩ := key i o ho
    exact (maskOf_spec g).1
  · obtain ⟨m, g0, g⟩ := key i o ho
    unfold bef at hj
    rw [show (befs[i]?).getD 0 = m by rw [g0]; rfl] at hj
    obtain ⟨e, he, hbe, r⟩ := (maskOf_spec g).2 j hj
    refine ⟨e, he, hbe, r.imp id fun ⟨b, r1, r2⟩ => ?_⟩
    have hlt := (maskOf_spec g).1 e he hbe
    rw [List.getElem?_take_of_lt hlt] at r1
    unfold bef
    rw [r1]; exact r2
  · obtain ⟨bi, g0, g⟩ := allSlots_spec h1.1 i o ho
    have := slotsOK_spec g j o' d ho' hd hm
    simp only [Nat.zero_add] at this g0
    refine ⟨fun hlt => ?_, this.2⟩
    unfold bef
    rw [g0]; exact this.1 hlt
  · obtain ⟨⟨more, e, hl⟩, _⟩ := hs
    rw [e]; simpa using hl

section
variable {ops : List Oper} {befs : List Nat}
theorem bef_lt (hp : PlanOK ops befs) : ∀ (i : Nat) (o : Oper), ops[i]? = some o → ∀ j, bef befs i j = true → j < i := by
  intro i
  induction i using Nat.strongRecOn with
  | _ i ih =>
    intro o ho j hj
    obtain ⟨e, he, hb, r⟩ := hp.bits i o ho j hj
    have hlt := hp.edge i o ho e he hb
    rcases r with rfl | r
    · exact hlt
    · have hlen : e.on < ops.length := by have := (List.getElem?_eq_some_iff.1 ho).1; omega
      exact Nat.lt_trans (ih e.on hlt _ (List.getElem?_eq_getElem hlen) j r) hlt

/-- Closed under what binds. -/
def Closed (ops : List Oper) (L : Nat → Bool) : Prop := ∀ (i : Nat) (o : Oper), ops[i]? = some o → L i = true → ∀ e ∈ o.after.toList, bindsE e = true → L e.on = true

theorem closed_edges (hp : PlanOK ops befs) {L : Nat → Bool} (hL : Closed ops L) : ∀ (i : Nat) (o : Oper), ops[i]? = some o → (∀ e ∈ o.after.toList, bindsE e = true → L e.on = true) → ∀ j, bef befs i j = true → L j = true := by
  intro i
  induction i using Nat.strongRecOn with
  | _ i ih =>
    intro o ho hl j hj
    obtain ⟨e, he, hb, r⟩ := hp.bits i o ho j hj
    have hlt := hp.edge i o ho e he hb
    rcases r with rfl | r
    · exact hl e he hb
    · have hlen : e.on < ops.length := by have := (List.getElem?_eq_some_iff.1 ho).1; omega
      exact ih e.on hlt _ (List.getElem?_eq_getElem hlen) (hL _ _ (List.getElem?_eq_getElem hlen) (hl e he hb)) j r
theorem closed_bef (hp : PlanOK ops befs) {L : Nat → Bool} (hL : Closed ops L) {i j : Nat} {o : Oper} (ho : ops[i]? = some o) (hi : L i = true) (hj : bef befs i j = true) : L j = true :=
  closed_edges hp hL i o ho (hL i o ho hi) j hj
end

section
variable {ops : Array Oper} {befs : List Nat}
theorem binds_any (e : Edge) : Region.binds .any e = bindsE e := by
  unfold Region.binds bindsE
  split <;> simp_all <;> rfl
theorem getD_set {l : Array Bool} {i : Nat} (hi : i < l.size) (j : Nat) : (l.setIfInBounds i true).getD j false = if j = i then true else l.getD j false := by
  simp only [Array.getD_eq_getD_getElem?, Array.getElem?_setIfInBounds]
  by_cases e : i = j
  · subst e; simp [hi]
  · rw [if_neg e, if_neg (fun h => e h.symm)]
theorem getD_same {l : Array Bool} {i : Nat} (hi : i < l.size) : l.getD i true = l.getD i false := by simp [Array.getD, hi]

theorem mem_ready {listed : Array Bool} {i : Nat} (hs : listed.size = ops.size) : i ∈ Region.ready .any ops listed ↔ ∃ o, ops.toList[i]? = some o ∧ listed.getD i false = false ∧ ∀ e ∈ o.after.toList, bindsE e = true → listed.getD e.on false = true := by
  unfold Region.ready
  simp only [List.mem_filter, List.mem_range, Bool.and_eq_true, Bool.not_eq_true', Array.getElem?_toList]
  constructor
  · rintro ⟨h1, h2, h3⟩
    have ho : ops[i]? = some ops[i] := by simp [h1]
    rw [ho] at h3
    refine ⟨_, ho, by rw [← getD_same (by omega)]; exact h2, fun e he hb => ?_⟩
    simp only [Option.map_some, Option.getD_some, Array.all_eq_true'] at h3
    have := h3 e (by simpa using he)
    rw [binds_any, hb] at this
    simpa using this
  · rintro ⟨o, ho, h2, h3⟩
    have h1 : i < ops.size := by
      rcases Nat.lt_or_ge i ops.size with c | c
      · exact c
      · rw [Array.getElem?_eq_none c] at ho; cases ho
    refine ⟨h1, by rw [getD_same (by omega)]; exact h2, ?_⟩
    rw [ho]
    simp only [Option.map_some, Option.getD_some, Array.all_eq_true']
    intro e he
    rw [binds_any]
    cases hb : bindsE e with
    | false => rfl
    | true => simp [h3 e (by simpa using he) hb]

theorem all_listed (hp : PlanOK ops.toList befs) {listed : Array Bool} (hs : listed.size = ops.size) (h : Region.ready .any ops listed = []) : ∀ i, i < ops.size → listed.getD i false = true := by
  intro i
  induction i using Nat.strongRecOn with
  | _ i ih =>
    intro hi
    cases hL : listed.getD i false with
    | true => rfl
    | false =>
      have ho : ops.toList[i]? = some ops[i] := by simp [hi]
      have : i ∈ Region.ready .any ops listed := (mem_ready hs).2 ⟨_, ho, hL, fun e he hb => by
        have := hp.edge i _ ho e he hb
        exact ih e.on this (by omega)⟩
      rw [h] at this; cases this
end

/-! ### What comes next -/
theorem zipL_get {α β : Type} : ∀ {l : List α} {m : List β} {i : Nat} {p : α × β}, (zipL l m)[i]? = some p ↔ l[i]? = some p.1 ∧ m[i]? = some p.2
  | [], _, i, p => by cases i <;> simp [zipL]
  | _ :: _, [], i, p => by cases i <;> simp [zipL]
  | a :: l, b :: m, i, p => by
    cases i with
    | zero => obtain ⟨x, y⟩ := p; simp [zipL, Prod.ext_iff]
    | succ i => simpa [zipL] using zipL_get (l := l) (m := m) (i := i) (p := p)
theorem readyN_iff {dn i b : Nat} : readyN dn i b = true ↔ Nat.testBit dn i = false ∧ ∀ j, Nat.testBit b j = true → Nat.testBit dn j = true := by
  unfold readyN
  rw [Bool.and_eq_true, beq_iff, decide_eq_true_eq]
  refine and_congr (by simp) ⟨fun h j hj => ?_, fun h => ?_⟩
  · have : Nat.testBit (Nat.land b dn) j = true := by rw [h]; exact hj
    rw [land_bit, Bool.and_eq_true] at this
    exact this.2
  · apply Nat.eq_of_testBit_eq
    intro j
    rw [land_bit]
    cases hb : Nat.testBit b j with
    | false => rfl
    | true => rw [h j hb]; rfl
theorem pickM_some {dn : Nat} : ∀ {l : List (BOper × Nat)} {i0 i : Nat} {o : BOper}, pickM dn l i0 = some (i, o) → ∃ j b, i = i0 + j ∧ l[j]? = some (o, b) ∧ readyN dn i b = true ∧ isEff o.op = false
  | [], _, _, _, h => by cases h
  | (o', b) :: r, i0, i, o, h => by
    simp only [pickM] at h
    cases hc : readyN dn i0 b && not (isEff o'.op) with
    | true =>
      rw [hc] at h; cases h
      rw [Bool.and_eq_true] at hc
      exact ⟨0, b, rfl, rfl, hc.1, by simpa using hc.2⟩
    | false =>
      rw [hc] at h
      obtain ⟨j, b', h1, h2, h3, h4⟩ := pickM_some h
      exact ⟨j + 1, b', by omega, by simpa using h2, h3, h4⟩
theorem pickM_none {dn : Nat} : ∀ {l : List (BOper × Nat)} {i0 : Nat}, pickM dn l i0 = none → ∀ j o b, l[j]? = some (o, b) → readyN dn (i0 + j) b = true → isEff o.op = true
  | [], _, _, j, o, b, h, _ => by simp at h
  | (o', b') :: r, i0, h, j, o, b, hj, hr => by
    simp only [pickM] at h
    cases hc : readyN dn i0 b' && not (isEff o'.op) with
    | true => rw [hc] at h; cases h
    | false =>
      rw [hc] at h
      cases j with
      | zero =>
        simp at hj
        obtain ⟨rfl, rfl⟩ := hj
        rw [Nat.add_zero] at hr
        rw [hr] at hc
        simpa using hc
      | succ j => exact pickM_none h j o b (by simpa using hj) (by rw [show i0.succ + j = i0 + (j + 1) by omega]; exact hr)
theorem pickE_mem {dn : Nat} : ∀ {l : List (BOper × Nat)} {i0 j : Nat} {o : BOper} {b : Nat}, l[j]? = some (o, b) → readyN dn (i0 + j) b = true → isEff o.op = true → (i0 + j, (b, o)) ∈ pickE dn l i0
  | [], _, j, o, b, h, _, _ => by simp at h
  | (o', b') :: r, i0, j, o, b, hj, hr, he => by
    simp only [pickE]
    cases j with
    | zero =>
      simp at hj
      obtain ⟨rfl, rfl⟩ := hj
      rw [Nat.add_zero] at hr ⊢
      rw [hr, he]
      exact List.mem_cons_self
    | succ j =>
      have := pickE_mem (i0 := i0.succ) (l := r) (j := j) (o := o) (b := b) (dn := dn) (by simpa using hj) (by rw [show i0.succ + j = i0 + (j + 1) by omega]; exact hr) he
      rw [show i0.succ + j = i0 + (j + 1) by omega] at this
      cases readyN dn i0 b' && isEff o'.op
      · exact this
      · exact List.mem_cons_of_mem _ this
theorem lor_bit (dn i j : Nat) : Nat.testBit (Nat.lor dn (Nat.pow 2 i)) j = (Nat.testBit dn j || decide (i = j)) := by
  change Nat.testBit (dn ||| 2 ^ i) j = _
  rw [Nat.testBit_or, Nat.testBit_two_pow]
theorem full_of {dn n : Nat} (h1 : ∀ j, j < n → Nat.testBit dn j = true) (h2 : ∀ j, Nat.testBit dn j = true → j < n) : dn = Nat.sub (Nat.pow 2 n) 1 := by
  apply Nat.eq_of_testBit_eq
  intro j
  change _ = Nat.testBit (2 ^ n - 1) j
  rw [Nat.testBit_two_pow_sub_one]
  by_cases c : j < n
  · rw [h1 j c]; simp [c]
  · simp only [c, decide_false]
    cases h : Nat.testBit dn j with
    | false => rfl
    | true => exact absurd (h2 j h) c
end Go.Sy
