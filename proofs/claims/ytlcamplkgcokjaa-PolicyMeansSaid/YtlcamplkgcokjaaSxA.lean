import Derived.Test.YtlcamplkgcokjaaSx
/-! Trees, lists, whole numbers: plain facts. -/
namespace Go.Sx

@[simp] theorem bif_true {β : Type} (x y : β) : bif_ true x y = x := rfl
@[simp] theorem bif_false {β : Type} (x y : β) : bif_ false x y = y := rfl
theorem bif_some {β : Type} {b : Bool} {x : Option β} {y : β} (h : bif_ b x none = some y) : b = true ∧ x = some y := by
  cases b
  · cases h
  · exact ⟨rfl, h⟩
@[simp] theorem obind_none {α β : Type} (f : α → Option β) : obind none f = none := rfl
@[simp] theorem obind_some {α β : Type} (a : α) (f : α → Option β) : obind (some a) f = f a := rfl
theorem obind_inv {α β : Type} {o : Option α} {f : α → Option β} {y : β} (h : obind o f = some y) : ∃ x, o = some x ∧ f x = some y := by
  cases o
  · cases h
  · exact ⟨_, rfl, h⟩

section
variable {α : Type}
@[simp] theorem Tr.get_nil (i : Nat) : (Tr.nil : Tr α).get i = none := rfl
@[simp] theorem Tr.get_zero (v : Option α) (l r : Tr α) : (Tr.node v l r).get 0 = v := rfl
theorem Tr.get_succ (v : Option α) (l r : Tr α) (j : Nat) : (Tr.node v l r).get (j + 1) = if j % 2 = 1 then r.get (j / 2) else l.get (j / 2) := by
  show (Bool.rec (motive := fun _ => Option α) (l.get (Nat.div j 2)) (r.get (Nat.div j 2)) (Nat.beq (Nat.mod j 2) 1)) = _
  have hd : Nat.div j 2 = j / 2 := rfl
  have hm : Nat.mod j 2 = j % 2 := rfl
  rw [hd, hm]
  by_cases h : j % 2 = 1
  · have : Nat.beq (j % 2) 1 = true := by rw [h]; rfl
    rw [this, if_pos h]
  · have : Nat.beq (j % 2) 1 = false := by cases e : Nat.beq (j % 2) 1 with | false => rfl | true => exact absurd (Nat.eq_of_beq_eq_true e) h
    rw [this, if_neg h]
theorem Tr.single_succ (f j : Nat) (x : Option α) : Tr.single (f + 1) (j + 1) x = if j % 2 = 1 then .node none .nil (Tr.single f (j / 2) x) else .node none (Tr.single f (j / 2) x) .nil := by
  show (Bool.rec (motive := fun _ => Tr α) _ _ (Nat.beq (Nat.mod j 2) 1)) = _
  have hd : Nat.div j 2 = j / 2 := rfl
  have hm : Nat.mod j 2 = j % 2 := rfl
  rw [hm]
  by_cases h : j % 2 = 1
  · have : Nat.beq (j % 2) 1 = true := by rw [h]; rfl
    rw [this, if_pos h]; rfl
  · have : Nat.beq (j % 2) 1 = false := by cases e : Nat.beq (j % 2) 1 with | false => rfl | true => exact absurd (Nat.eq_of_beq_eq_true e) h
    rw [this, if_neg h]; rfl
theorem Tr.get_single (x : Option α) : ∀ (f i j : Nat), i < f → (Tr.single f i x).get j = if i = j then x else none
  | 0, i, j, h => absurd h (Nat.not_lt_zero _)
  | f + 1, 0, j, _ => by
    show (Tr.node x .nil .nil).get j = _
    cases j with
    | zero => simp
    | succ j => rw [Tr.get_succ]; simp
  | f + 1, i + 1, j, h => by
    rw [Tr.single_succ]
    have ih := Tr.get_single x f (i / 2)
    by_cases hi : i % 2 = 1
    · rw [if_pos hi]
      cases j with
      | zero => simp
      | succ j =>
        rw [Tr.get_succ]
        by_cases hj : j % 2 = 1
        · rw [if_pos hj, ih _ (by omega)]
          by_cases e : i = j
          · subst e; simp
          · rw [if_neg (by omega), if_neg (by omega)]
        · rw [if_neg hj, if_neg (by omega)]; rfl
    · rw [if_neg hi]
      cases j with
      | zero => simp
      | succ j =>
        rw [Tr.get_succ]
        by_cases hj : j % 2 = 1
        · rw [if_pos hj, if_neg (by omega)]; rfl
        · rw [if_neg hj, ih _ (by omega)]
          by_cases e : i = j
          · subst e; simp
          · rw [if_neg (by omega), if_neg (by omega)]
theorem Tr.set_succ (v : Option α) (l r : Tr α) (j : Nat) (x : Option α) : (Tr.node v l r).set (j + 1) x = if j % 2 = 1 then .node v l (r.set (j / 2) x) else .node v (l.set (j / 2) x) r := by
  show (Bool.rec (motive := fun _ => Tr α) _ _ (Nat.beq (Nat.mod j 2) 1)) = _
  have hm : Nat.mod j 2 = j % 2 := rfl
  rw [hm]
  by_cases h : j % 2 = 1
  · have : Nat.beq (j % 2) 1 = true := by rw [h]; rfl
    rw [this, if_pos h]; rfl
  · have : Nat.beq (j % 2) 1 = false := by cases e : Nat.beq (j % 2) 1 with | false => rfl | true => exact absurd (Nat.eq_of_beq_eq_true e) h
    rw [this, if_neg h]; rfl
theorem Tr.get_set (t : Tr α) : ∀ (i j : Nat) (x : Option α), (t.set i x).get j = if i = j then x else t.get j := by
  induction t with
  | nil => intro i j x; show (Tr.single (i + 1) i x).get j = _; rw [Tr.get_single x _ _ _ (by omega)]; rfl
  | node v l r ihl ihr =>
    intro i j x
    cases i with
    | zero =>
      show (Tr.node x l r).get j = _
      cases j with
      | zero => simp
      | succ j => rw [Tr.get_succ, Tr.get_succ]; simp
    | succ i =>
      rw [Tr.set_succ]
      by_cases hi : i % 2 = 1
      · rw [if_pos hi]
        cases j with
        | zero => simp
        | succ j =>
          rw [Tr.get_succ, Tr.get_succ]
          by_cases hj : j % 2 = 1
          · rw [if_pos hj, if_pos hj, ihr]
            by_cases e : i = j
            · subst e; simp
            · rw [if_neg (by omega), if_neg (by omega)]
          · rw [if_neg hj, if_neg hj, if_neg (by omega)]
      · rw [if_neg hi]
        cases j with
        | zero => simp
        | succ j =>
          rw [Tr.get_succ, Tr.get_succ]
          by_cases hj : j % 2 = 1
          · rw [if_pos hj, if_pos hj, if_neg (by omega)]
          · rw [if_neg hj, if_neg hj, ihl]
            by_cases e : i = j
            · subst e; simp
            · rw [if_neg (by omega), if_neg (by omega)]
theorem Tr.get_set_same (t : Tr α) (i : Nat) (x : Option α) : (t.set i x).get i = x := by rw [Tr.get_set, if_pos rfl]
theorem Tr.get_set_other (t : Tr α) {i j : Nat} (x : Option α) (h : i ≠ j) : (t.set i x).get j = t.get j := by rw [Tr.get_set, if_neg h]
theorem boolrec_congr {β γ : Type} (b : Bool) (x y : β) (f : β → γ) : (Bool.rec (f x) (f y) b : γ) = f (Bool.rec x y b) := by cases b <;> rfl
theorem Tr.singleK_eq {β : Type} (f : Nat) : ∀ (i : Nat) (x : Option α) (k : Tr α → β), Tr.singleK f i x k = k (Tr.single f i x) := by
  induction f with
  | zero => intros; rfl
  | succ f ih =>
    intro i x k
    cases i with
    | zero => rfl
    | succ j =>
      show (Bool.rec (Tr.singleK f (Nat.div j 2) x fun t => k (.node none t .nil)) (Tr.singleK f (Nat.div j 2) x fun t => k (.node none .nil t)) (Nat.beq (Nat.mod j 2) 1) : β) = _
      rw [ih, ih]
      exact boolrec_congr _ _ _ k
theorem Tr.setK_eq {β : Type} (t : Tr α) : ∀ (i : Nat) (x : Option α) (k : Tr α → β), t.setK i x k = k (t.set i x) := by
  induction t with
  | nil => intro i x k; show Tr.singleK (i + 1) i x k = k (Tr.single (i + 1) i x); exact Tr.singleK_eq _ i x k
  | node v l r ihl ihr =>
    intro i x k
    cases i with
    | zero => rfl
    | succ j =>
      show (Bool.rec (Tr.setK l (Nat.div j 2) x fun t => k (.node v t r)) (Tr.setK r (Nat.div j 2) x fun t => k (.node v l t)) (Nat.beq (Nat.mod j 2) 1) : β) = _
      rw [ihl, ihr]
      exact boolrec_congr _ _ _ k
end

section
variable {α : Type}
theorem takeL_eq : ∀ (n : Nat) (l : List α), takeL n l = l.take n
  | 0, l => by simp [takeL]
  | n + 1, [] => by simp [takeL]
  | n + 1, x :: r => by simp [takeL, takeL_eq n r]
theorem dropL_eq : ∀ (n : Nat) (l : List α), dropL n l = l.drop n
  | 0, l => by simp [dropL]
  | n + 1, [] => by simp [dropL]
  | n + 1, x :: r => by simp [dropL, dropL_eq n r]
theorem getL_eq (l : List α) : ∀ i, getL i l = l[i]? := by
  induction l with
  | nil => intro i; rfl
  | cons x r ih =>
    intro i
    cases i with
    | zero => rfl
    | succ i => show getL i r = _; rw [ih]; simp
theorem setL_eq : ∀ (i : Nat) (y : α) (l : List α), setL i y l = l.set i y
  | _, _, [] => by simp [setL]
  | 0, _, _ :: _ => by simp [setL]
  | n + 1, y, x :: r => by simp [setL, setL_eq n y r]
theorem lenL_eq (l : List α) : lenL l = l.length := by
  induction l with
  | nil => rfl
  | cons x r ih => show Nat.succ (lenL r) = _; rw [ih]; simp
theorem fillAt_length : ∀ (off : Nat) (vs l : List α), (fillAt off vs l).length = l.length
  | _, [], _ => rfl
  | off, v :: r, l => by rw [fillAt, fillAt_length, setL_eq, List.length_set]
theorem fillAt_get : ∀ (vs l : List α) (off j : Nat), off + vs.length ≤ l.length → (fillAt off vs l)[j]? = if off ≤ j ∧ j < off + vs.length then vs[j - off]? else l[j]?
  | [], l, off, j, _ => by simp only [fillAt, List.length_nil]; rw [if_neg (by omega)]
  | v :: r, l, off, j, h => by
    have h' : off + 1 + r.length ≤ l.length := by simp at h; omega
    rw [fillAt, fillAt_get r _ _ j (by rw [setL_eq, List.length_set]; exact h'), setL_eq]
    have e1 : Nat.succ off = off + 1 := rfl
    rw [e1]
    by_cases c : off + 1 ≤ j ∧ j < off + 1 + r.length
    · rw [if_pos c, if_pos (by simp; omega)]
      rw [show j - off = (j - (off + 1)) + 1 by omega]; simp
    · rw [if_neg c, List.getElem?_set]
      by_cases c2 : off = j
      · subst c2
        rw [if_pos rfl, if_pos (by simp at h; omega), if_pos (by simp)]; simp
      · rw [if_neg c2, if_neg (by simp; omega)]
theorem repL_length (l : List α) : ∀ n, (repL n l).length = n * l.length
  | 0 => by simp [repL]
  | n + 1 => by simp [repL, repL_length l n, Nat.succ_mul, Nat.add_comm]
end
theorem natK_eq {β : Type} (n : Nat) (k : Nat → β) : natK n k = k n := by cases n <;> rfl
theorem forceV_eq {β : Type} (v : AV) (k : AV → β) : forceV v k = k v := by
  cases v with
  | int kd n => cases n with
    | ofNat n => exact natK_eq n (fun n => k (.int kd (.ofNat n)))
    | negSucc n => exact natK_eq n (fun n => k (.int kd (.negSucc n)))
  | bool b => cases b <;> rfl
  | _ => rfl
theorem putsK_eq {β : Type} (l : List AV) : ∀ (off : Nat) (t : Tr AV) (k : Tr AV → β), putsK l off t k = k (puts l off t) := by
  induction l with
  | nil => intros; rfl
  | cons v r ih => intro off t k; show t.setK off (some v) _ = _; rw [Tr.setK_eq]; exact ih _ _ _
theorem puts_get (l : List AV) : ∀ (off : Nat) (t : Tr AV) (j : Nat), (puts l off t).get j = if off ≤ j ∧ j < off + l.length then l[j - off]? else t.get j := by
  induction l with
  | nil => intro off t j; show t.get j = _; rw [if_neg (by simp)]
  | cons v r ih =>
    intro off t j
    show (puts r (Nat.succ off) (t.set off (some v))).get j = _
    rw [ih, Tr.get_set]
    have e1 : Nat.succ off = off + 1 := rfl
    rw [e1]
    by_cases c : off + 1 ≤ j ∧ j < off + 1 + r.length
    · rw [if_pos c, if_pos (by simp; omega), show j - off = (j - (off + 1)) + 1 by omega]; simp
    · rw [if_neg c]
      by_cases c2 : off = j
      · subst c2; rw [if_pos rfl, if_pos (by simp)]; simp
      · rw [if_neg c2, if_neg (by simp; omega)]
theorem beq_iff (a b : Nat) : Nat.beq a b = decide (a = b) := by
  by_cases c : a = b
  · subst c; simp
  · rw [decide_eq_false c]; cases e : Nat.beq a b with | false => rfl | true => exact absurd (Nat.eq_of_beq_eq_true e) c
end Go.Sx
