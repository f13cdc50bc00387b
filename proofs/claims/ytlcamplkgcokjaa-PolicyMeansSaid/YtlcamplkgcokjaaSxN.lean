import Derived.Test.YtlcamplkgcokjaaSxB
import Derived.Laws.Entries
/-! Whole numbers: the quick functions are the model's. -/
namespace Go.Sx

theorem blt_true {a b : Nat} : Nat.blt a b = true ↔ a < b := by rw [Nat.blt_eq]
theorem toU_eq (m : Nat) (hm : 0 < m) (n : Int) : ((toU m n : Nat) : Int) = n % (m : Int) := by
  cases n with
  | ofNat a => show ((Nat.mod a m : Nat) : Int) = _; exact (Int.natCast_emod a m)
  | negSucc a =>
    show ((m - 1 - a % m : Nat) : Int) = _
    have h1 : a % m < m := Nat.mod_lt _ hm
    rw [Int.negSucc_emod a (by omega)]
    omega
theorem ofNat_coe (n : Nat) : Int.ofNat n = (n : Int) := rfl
theorem wrapU_eq (m : Nat) (hm : 0 < m) (n : Int) : wrapU m n = n % (m : Int) := toU_eq m hm n
theorem signOf_eq (h m r : Nat) (hr : r < m) : signOf h m r = if (h : Int) ≤ r then (r : Int) - m else r := by
  unfold signOf
  by_cases c : r < h
  · have : Nat.blt r h = true := by simpa [Nat.blt_eq] using c
    rw [this, if_neg (by omega)]; rfl
  · have : Nat.blt r h = false := by cases e : Nat.blt r h with | false => rfl | true => exact absurd (blt_true.1 e) c
    rw [this, if_pos (by omega)]
    show Int.negSucc (m - 1 - r) = _
    omega
theorem wrapS_eq (h m : Nat) (hm : m = 2 * h) (hh : 0 < h) (n : Int) : wrapS h m n = if (h : Int) ≤ n % (m : Int) then n % (m : Int) - m else n % (m : Int) := by
  have hm0 : 0 < m := by omega
  cases n with
  | ofNat a =>
    show bif_ (Nat.blt a h) (Int.ofNat a) (signOf h m (a % m)) = _
    have e : (Int.ofNat a) % (m : Int) = ((a % m : Nat) : Int) := (Int.natCast_emod a m).symm
    rw [e]
    by_cases c : a < h
    · have : Nat.blt a h = true := by simpa [Nat.blt_eq] using c
      have e2 : a % m = a := Nat.mod_eq_of_lt (by omega)
      rw [this, e2, if_neg (by omega)]; rfl
    · have : Nat.blt a h = false := by cases e : Nat.blt a h with | false => rfl | true => exact absurd (blt_true.1 e) c
      rw [this]
      exact signOf_eq h m _ (Nat.mod_lt _ hm0)
  | negSucc a =>
    show bif_ (Nat.blt a h) (Int.negSucc a) (signOf h m (m - 1 - a % m)) = _
    have e : (Int.negSucc a) % (m : Int) = ((m - 1 - a % m : Nat) : Int) := (toU_eq m hm0 (Int.negSucc a)).symm
    have h1 : a % m < m := Nat.mod_lt _ hm0
    rw [e]
    by_cases c : a < h
    · have : Nat.blt a h = true := by simpa [Nat.blt_eq] using c
      have e2 : a % m = a := Nat.mod_eq_of_lt (by omega)
      rw [this, e2, if_pos (by omega)]
      show Int.negSucc a = _
      omega
    · have : Nat.blt a h = false := by cases e : Nat.blt a h with | false => rfl | true => exact absurd (blt_true.1 e) c
      rw [this]
      exact signOf_eq h m _ (by omega)
theorem modOf_eq (k : IntKind) : ((modOf k : Nat) : Int) = (2 : Int) ^ k.bits := by cases k <;> rfl
theorem modOf_pow (k : IntKind) : modOf k = 2 ^ k.bits := by cases k <;> rfl
theorem bitsOf_eq (k : IntKind) : bitsOf k = k.bits := by cases k <;> rfl
theorem wrapF_eq (k : IntKind) (n : Int) : wrapF k n = k.wrap n := by
  cases k <;> simp only [wrapF, IntKind.wrap, IntKind.bits, IntKind.signed, Bool.true_and, Bool.false_and, decide_eq_true_eq, ge_iff_le, Bool.false_eq_true, if_false]
  · rw [wrapS_eq 128 256 rfl (by decide)]; rfl
  · rw [wrapS_eq 32768 65536 rfl (by decide)]; rfl
  · rw [wrapS_eq 2147483648 4294967296 rfl (by decide)]; rfl
  · rw [wrapS_eq 9223372036854775808 18446744073709551616 rfl (by decide)]; rfl
  · rw [wrapU_eq _ (by decide)]; rfl
  · rw [wrapU_eq _ (by decide)]; rfl
  · rw [wrapU_eq _ (by decide)]; rfl
  · rw [wrapU_eq _ (by decide)]; rfl
theorem subNN_eq (a b : Nat) : subNN a b = (a : Int) - b := by
  unfold subNN
  by_cases c : b ≤ a
  · have : Nat.ble b a = true := by simpa using c
    rw [this]; show ((a - b : Nat) : Int) = _; omega
  · have : Nat.ble b a = false := by cases e : Nat.ble b a with | false => rfl | true => exact absurd (Nat.le_of_ble_eq_true e) c
    rw [this]; show Int.negSucc (b - a - 1) = _; omega
theorem iadd_eq (a b : Int) : iadd a b = a + b := by cases a <;> cases b <;> rfl
theorem isub_eq (a b : Int) : isub a b = a - b := by
  cases a <;> cases b <;> first | rfl | exact subNN_eq _ _
theorem imul_eq (a b : Int) : imul a b = a * b := by cases a <;> cases b <;> rfl
theorem ieq_eq (a b : Int) : ieq a b = (a == b) := by
  cases a <;> cases b <;> simp [ieq]
  · rename_i a b; cases h : Nat.beq a b with
    | true => rw [Nat.eq_of_beq_eq_true h]; simp
    | false => have := Nat.ne_of_beq_eq_false h; simp; omega
  · rename_i a b; cases h : Nat.beq a b with
    | true => rw [Nat.eq_of_beq_eq_true h]; simp
    | false => have := Nat.ne_of_beq_eq_false h; simp; omega
theorem ilt_eq (a b : Int) : ilt a b = decide (a < b) := by
  have key : ∀ x y : Nat, Nat.blt x y = decide (x < y) := fun x y => by
    by_cases c : x < y
    · rw [decide_eq_true c]; simpa [Nat.blt_eq] using c
    · rw [decide_eq_false c]; cases e : Nat.blt x y with | false => rfl | true => exact absurd (blt_true.1 e) c
  cases a with
  | ofNat a => cases b with
    | ofNat b => show Nat.blt a b = _; rw [key]; simp
    | negSucc b => show false = _; symm; rw [decide_eq_false_iff_not]; simp only [ofNat_coe]; omega
  | negSucc a => cases b with
    | ofNat b => show true = _; symm; rw [decide_eq_true_eq]; simp only [ofNat_coe]; omega
    | negSucc b => show Nat.blt b a = _; rw [key]; congr 1; apply propext; omega
theorem nmin_eq (a b : Nat) : nmin a b = min a b := by
  unfold nmin
  by_cases c : a ≤ b
  · have : Nat.ble a b = true := by simpa using c
    rw [this, Nat.min_eq_left c]; rfl
  · have : Nat.ble a b = false := by cases e : Nat.ble a b with | false => rfl | true => exact absurd (Nat.le_of_ble_eq_true e) c
    rw [this, Nat.min_eq_right (by omega)]; rfl
theorem toU_toNat (k : IntKind) (n : Int) : toU (modOf k) n = (BitVec.ofInt k.bits n).toNat := by
  rw [BitVec.toNat_ofInt]
  have h := toU_eq (modOf k) (by cases k <;> decide) n
  have e : (((2 ^ k.bits : Nat)) : Int) = ((modOf k : Nat) : Int) := by rw [modOf_pow]
  rw [e]; omega
theorem kbeq_eq {j k : IntKind} (h : kbeq j k = true) : j = k := by cases j <;> cases k <;> first | rfl | cases h

theorem pow2_coe (n : Nat) : (2 : Int) ^ n = ((2 ^ n : Nat) : Int) := by simp
theorem fdiv_nat (a n : Nat) : (a : Int).fdiv (2 ^ n) = ((a / 2 ^ n : Nat) : Int) := by
  rw [pow2_coe, Int.fdiv_eq_ediv_of_nonneg _ (Int.natCast_nonneg _), Int.natCast_ediv]
theorem fdiv_neg (a n : Nat) : (Int.negSucc a).fdiv (2 ^ n) = Int.negSucc (a / 2 ^ n) := by
  have hp : 0 < 2 ^ n := Nat.pow_pos (by decide)
  rw [pow2_coe, Int.fdiv_eq_ediv_of_nonneg _ (Int.natCast_nonneg _), Int.negSucc_ediv _ (by omega)]
  have : (a : Int) / ((2 ^ n : Nat) : Int) = ((a / 2 ^ n : Nat) : Int) := (Int.natCast_ediv _ _).symm
  show -((a : Int) / ((2 ^ n : Nat) : Int) + 1) = _
  rw [this, Int.negSucc_eq]

section
variable {P : Program} {σ : Nat → Option Value} {E : Env}
/-- What an operation on two whole numbers yields. -/
theorem binInt_sound {op : BinOp} {k k' : IntKind} {a b : Int} {v : AV} {t : TypeId} (h : binInt op k a b = some v) (hk : isShift op = true ∨ k = k') :
    ∃ x, v.den σ E = some x ∧ ∀ w, (Go.binOp op t (.int k a) (.int k' b)).run P w = .ok x w := by
  have hb := bitsOf_eq k
  by_cases hs : isShift op = true
  · cases op <;> simp [isShift] at hs
    · cases b with
      | negSucc b => simp [binInt, shl] at h
      | ofNat b =>
        simp only [binInt, shl, Option.some.injEq] at h; subst h
        refine ⟨_, rfl, fun w => ?_⟩
        simp only [Go.binOp, Op.shift]
        rw [if_neg (by simp), wrapF_eq, imul_eq, nmin_eq, hb]
        simp [Nat.pow_eq]
    · cases b with
      | negSucc b => cases a <;> simp [binInt, shr] at h
      | ofNat b =>
        cases a with
        | ofNat a =>
          simp only [binInt, shr, Option.some.injEq] at h; subst h
          refine ⟨_, rfl, fun w => ?_⟩
          simp only [Go.binOp, Op.shift]
          rw [if_neg (by simp), nmin_eq, hb]
          simp only [Sem.run_pure, Int.toNat_natCast, ofNat_coe]
          rw [fdiv_nat]; rfl
        | negSucc a =>
          simp only [binInt, shr, Option.some.injEq] at h; subst h
          refine ⟨_, rfl, fun w => ?_⟩
          simp only [Go.binOp, Op.shift]
          rw [if_neg (by simp), nmin_eq, hb]
          simp only [Sem.run_pure, Int.toNat_natCast, ofNat_coe]
          rw [fdiv_neg]; rfl
  · obtain rfl : k = k' := hk.resolve_left hs
    cases op <;> simp only [isShift] at hs
    case quo =>
      cases a with
      | negSucc a => cases b <;> simp [binInt, iquo] at h
      | ofNat a => cases b with
        | negSucc b => simp [binInt, iquo] at h
        | ofNat b => cases b with
          | zero => simp [binInt, iquo] at h
          | succ b =>
            simp only [binInt, iquo, Option.some.injEq] at h; subst h
            refine ⟨_, rfl, fun w => ?_⟩
            simp only [Go.binOp, ne_eq, not_true_eq_false, if_false, Op.intDiv]
            rw [if_neg (by simp only [ofNat_coe]; omega), wrapF_eq]
            rfl
    case rem =>
      cases a with
      | negSucc a => cases b <;> simp [binInt, irem] at h
      | ofNat a => cases b with
        | negSucc b => simp [binInt, irem] at h
        | ofNat b => cases b with
          | zero => simp [binInt, irem] at h
          | succ b =>
            simp only [binInt, irem, Option.some.injEq] at h; subst h
            refine ⟨_, rfl, fun w => ?_⟩
            simp only [Go.binOp, ne_eq, not_true_eq_false, if_false, Op.intDiv]
            rw [if_neg (by simp only [ofNat_coe]; omega)]
            rfl
    case shl => simp at hs
    case shr => simp at hs
    all_goals simp only [binInt, Option.some.injEq] at h
    all_goals subst h
    all_goals refine ⟨_, rfl, fun w => ?_⟩
    all_goals simp [Go.binOp, Op.intArith, Op.intBits, Op.intCmp, wrapF_eq, iadd_eq, isub_eq, imul_eq, ieq_eq, ilt_eq, toU_toNat]
    case andNot => rw [modOf_pow]
    case neq => rfl
    case leq => rw [← decide_not]; congr 1; apply propext; omega
    case geq => rw [← decide_not]; congr 1; apply propext; omega
end
end Go.Sx
