import Derived.Test.YtfkaabhmcdiihaaSyOne
import Derived.Laws.Entries
import Derived.Below
import Derived.Lib.FrozenHead
import Derived.Laws.Cells
import Derived.WalkKit
import Derived.RangeFuncRecord
/-! Whole numbers: the quick functions are the model's. -/
namespace Go.Sy

theorem ieq_eq (a b : Int) : ieq a b = decide (a = b) := by
  cases a <;> cases b
  · rename_i a b; show Nat.beq a b = _; rw [beq_iff]; exact decide_eq_decide.2 ⟨fun h => by rw [h], fun h => by injection h⟩
  · show false = _; symm; rw [decide_eq_false_iff_not]; intro h; cases h
  · show false = _; symm; rw [decide_eq_false_iff_not]; intro h; cases h
  · rename_i a b; show Nat.beq a b = _; rw [beq_iff]; exact decide_eq_decide.2 ⟨fun h => by rw [h], fun h => by injection h⟩
theorem ilt_eq (a b : Int) : ilt a b = decide (a < b) := by
  cases a with
  | ofNat a => cases b with
    | ofNat b => show Nat.blt a b = _; rw [blt_iff]; congr 1; simp
    | negSucc b => show false = _; symm; rw [decide_eq_false_iff_not]; have : Int.ofNat a = (a : Int) := rfl; rw [this]; omega
  | negSucc a => cases b with
    | ofNat b => show true = _; symm; rw [decide_eq_true_eq]; have : Int.ofNat b = (b : Int) := rfl; rw [this]; omega
    | negSucc b => show Nat.blt b a = _; rw [blt_iff]; congr 1; apply propext; omega
theorem kbeq_eq {j k : IntKind} (h : kbeq j k = true) : j = k := by cases j <;> cases k <;> first | rfl | cases h
theorem kbeq_refl (k : IntKind) : kbeq k k = true := by cases k <;> rfl
theorem bbeq_eq (a b : Bool) : bbeq a b = decide (a = b) := by cases a <;> cases b <;> rfl
theorem bopEq_eq {a b : BinOp} (h : bopEq a b = true) : a = b := by
  have := Nat.eq_of_beq_eq_true h
  cases a <;> cases b <;> first | rfl | (simp [bopEq.num] at this)
theorem modOf_bits (k : IntKind) : modOf k = 2 ^ k.bits := by cases k <;> rfl
theorem bitsOf_eq (k : IntKind) : bitsOf k = k.bits := by cases k <;> rfl
theorem isS_eq (k : IntKind) : isS k = k.signed := by cases k <;> rfl
theorem modOf_pos (k : IntKind) : 0 < modOf k := by cases k <;> decide
theorem sgn_eq (k : IntKind) {u : Nat} (h : u < modOf k) : sgn k u = if u < halfOf k then (u : Int) else (u : Int) - modOf k := by
  unfold sgn sgnH
  rw [blt_iff]
  by_cases c : u < halfOf k
  · rw [decide_eq_true c, if_pos c]; rfl
  · rw [decide_eq_false c, if_neg c]
    show Int.negSucc (modOf k - 1 - u) = _
    omega
theorem wrap_eq (k : IntKind) {n : Int} {u : Nat} (hu : u < modOf k) (e : n % (modOf k : Int) = u) : k.wrap n = sgn k u := by
  rw [sgn_eq k hu]
  cases k <;> simp only [modOf, halfOf, IntKind.wrap, IntKind.bits, IntKind.signed, Bool.true_and, Bool.false_and, decide_eq_true_eq, ge_iff_le, Bool.false_eq_true, if_false] at * <;> (try split) <;> (try split) <;> omega
theorem emod_lt (k : IntKind) (n : Int) : ∃ u : Nat, u < modOf k ∧ n % (modOf k : Int) = u := by
  have hp := modOf_pos k
  have h1 := Int.emod_nonneg n (b := (modOf k : Int)) (by omega)
  have h2 := Int.emod_lt_of_pos n (b := (modOf k : Int)) (by omega)
  exact ⟨(n % (modOf k : Int)).toNat, by omega, by omega⟩
theorem sgn_mod (k : IntKind) {u : Nat} (h : u < modOf k) : sgn k u % (modOf k : Int) = u := by
  rw [sgn_eq k h]
  split
  · exact Int.emod_eq_of_lt (by omega) (by omega)
  · rw [Int.sub_emod_right]; exact Int.emod_eq_of_lt (by omega) (by omega)
theorem wrap_sgn (k : IntKind) {u : Nat} (h : u < modOf k) : k.wrap (sgn k u) = sgn k u := wrap_eq k h (sgn_mod k h)
theorem sgn_inj (k : IntKind) {u v : Nat} (h : u < modOf k) (h' : v < modOf k) (e : sgn k u = sgn k v) : u = v := by
  have a := sgn_mod k h
  have b := sgn_mod k h'
  rw [e] at a; omega
theorem sgn_wf (k : IntKind) {u : Nat} (h : u < modOf k) : (Lit.int k (sgn k u)).wf = true := by
  rw [sgn_eq k h]
  by_cases c : u < halfOf k
  · rw [if_pos c]
    cases k <;> simp only [modOf, halfOf, Lit.wf, IntKind.min, IntKind.max, IntKind.bits, IntKind.signed, Bool.and_eq_true, decide_eq_true_eq] at * <;> simp <;> omega
  · rw [if_neg c]
    cases k <;> simp only [modOf, halfOf, Lit.wf, IntKind.min, IntKind.max, IntKind.bits, IntKind.signed, Bool.and_eq_true, decide_eq_true_eq] at * <;> simp <;> omega
theorem wf_range {k : IntKind} {n : Int} (h : (Lit.int k n).wf = true) : minOf k ≤ n ∧ n ≤ maxOf k := by
  simp only [Lit.wf, Bool.and_eq_true, decide_eq_true_eq] at h
  cases k <;> simp only [IntKind.min, IntKind.max, IntKind.signed, IntKind.bits] at h <;> simp [minOf, maxOf] at h ⊢ <;> omega
theorem wrap_wf (k : IntKind) (n : Int) : (Lit.int k (k.wrap n)).wf = true := by
  obtain ⟨u, hu, e⟩ := emod_lt k n
  rw [wrap_eq k hu e]; exact sgn_wf k hu
theorem wf_wrap {k : IntKind} {n : Int} (h : (Lit.int k n).wf = true) : k.wrap n = n := by
  have := wf_range h
  cases k <;> simp only [minOf, maxOf] at this <;> simp only [IntKind.wrap, IntKind.signed, IntKind.bits] <;> simp at this ⊢ <;> omega
theorem sgn_nat (k : IntKind) {u : Nat} (h : u < halfOf k) : sgn k u = (u : Int) := by
  have : u < modOf k := by cases k <;> simp only [halfOf, modOf] at * <;> omega
  rw [sgn_eq k this, if_pos h]
theorem half_le (k : IntKind) : halfOf k ≤ modOf k := by cases k <;> decide
theorem toU_eq (m : Nat) (hm : 0 < m) (n : Int) : ((toU m n : Nat) : Int) = n % (m : Int) := by
  cases n with
  | ofNat a => show ((Nat.mod a m : Nat) : Int) = _; exact (Int.natCast_emod a m)
  | negSucc a =>
    show ((m - 1 - a % m : Nat) : Int) = _
    have h1 : a % m < m := Nat.mod_lt _ hm
    rw [Int.negSucc_emod a (by omega)]
    omega
theorem toU_lt (m : Nat) (hm : 0 < m) (n : Int) : toU m n < m := by
  have := toU_eq m hm n
  have h2 := Int.emod_lt_of_pos n (b := (m : Int)) (by omega)
  omega
theorem nmin_eq (a b : Nat) : nmin a b = min a b := by
  unfold nmin
  rw [ble_iff]
  by_cases c : a ≤ b
  · rw [decide_eq_true c, Nat.min_eq_left c]; rfl
  · rw [decide_eq_false c, Nat.min_eq_right (by omega)]; rfl

/-- What the language yields for two whole numbers; no comparison. -/
def zar (op : BinOp) (k : IntKind) (x y : Int) : Option Int :=
  match op with
  | .add => some (k.wrap (x + y))
  | .sub => some (k.wrap (x - y))
  | .mul => some (k.wrap (x * y))
  | .quo => if y = 0 then none else some (k.wrap (x.tdiv y))
  | .rem => if y = 0 then none else some (x.tmod y)
  | .and => some (k.wrap ((BitVec.ofInt k.bits x &&& BitVec.ofInt k.bits y).toNat : Int))
  | .or => some (k.wrap ((BitVec.ofInt k.bits x ||| BitVec.ofInt k.bits y).toNat : Int))
  | .xor => some (k.wrap ((BitVec.ofInt k.bits x ^^^ BitVec.ofInt k.bits y).toNat : Int))
  | .andNot => some (k.wrap ((BitVec.ofInt k.bits x &&& ~~~ BitVec.ofInt k.bits y).toNat : Int))
  | .shl => if y < 0 then none else some (k.wrap (x * 2 ^ (min y.toNat k.bits)))
  | .shr => if y < 0 then none else some (x.fdiv (2 ^ (min y.toNat k.bits)))
  | _ => none
def zcm (op : BinOp) (x y : Int) : Option Bool :=
  match op with
  | .eql => some (decide (x = y))
  | .neq => some (decide (x ≠ y))
  | .lss => some (decide (x < y))
  | .leq => some (decide (x ≤ y))
  | .gtr => some (decide (y < x))
  | .geq => some (decide (y ≤ x))
  | _ => none

section
variable {P : Program}
theorem zar_run {op : BinOp} {k k' : IntKind} {x y c : Int} (h : zar op k x y = some c) (hk : isShift op = true ∨ k = k') (t : TypeId) (w : World) : (Go.binOp op t (.int k x) (.int k' y)).run P w = .ok (.int k c) w := by
  cases op <;> simp only [zar, Option.some.injEq] at h <;> (try cases h)
  case quo =>
    obtain rfl := hk.resolve_left (by decide)
    split at h
    · cases h
    · rename_i hy; cases h; simp [Go.binOp, Op.intDiv, hy]
  case rem =>
    obtain rfl := hk.resolve_left (by decide)
    split at h
    · cases h
    · rename_i hy; cases h; simp [Go.binOp, Op.intDiv, hy]
  case shl =>
    split at h
    · cases h
    · rename_i hy; cases h; simp [Go.binOp, Op.shift, hy]
  case shr =>
    split at h
    · cases h
    · rename_i hy; cases h; simp [Go.binOp, Op.shift, hy]
  all_goals obtain rfl := hk.resolve_left (by decide)
  all_goals simp [Go.binOp, Op.intArith, Op.intBits]
theorem zcm_run {op : BinOp} {k : IntKind} {x y : Int} {r : Bool} (h : zcm op x y = some r) (t : TypeId) (w : World) : (Go.binOp op t (.int k x) (.int k y)).run P w = .ok (.bool r) w := by
  cases op <;> simp only [zcm, Option.some.injEq] at h <;> (try cases h) <;> simp [Go.binOp, Op.intCmp]
  case eql => rw [Bool.eq_iff_iff]; simp
  case neq => rfl
end

theorem tmod_wf {k : IntKind} {x y : Int} (hx : (Lit.int k x).wf = true) : (Lit.int k (x.tmod y)).wf = true := by
  have hx := wf_range hx
  have h1 : (x.tmod y).natAbs ≤ x.natAbs := by
    rw [Int.natAbs_tmod]; exact Nat.mod_le _ _
  have h2 : 0 ≤ x → 0 ≤ x.tmod y := fun h => Int.tmod_nonneg _ h
  have h3 : x ≤ 0 → x.tmod y ≤ 0 := fun h => by
    have := Int.tmod_nonneg y (a := -x) (by omega)
    rw [Int.neg_tmod] at this; omega
  simp only [Lit.wf, Bool.and_eq_true, decide_eq_true_eq]
  cases k <;> simp only [minOf, maxOf] at hx <;> simp only [IntKind.min, IntKind.max, IntKind.signed, IntKind.bits] <;> simp at hx ⊢ <;> omega
theorem fdiv_wf {k : IntKind} {x : Int} (hx : (Lit.int k x).wf = true) (n : Nat) : (Lit.int k (x.fdiv (2 ^ n))).wf = true := by
  have hx := wf_range hx
  have hp : (0 : Int) < 2 ^ n := Int.pow_pos (by decide)
  have e : x.fdiv (2 ^ n) = x / (2 ^ n) := Int.fdiv_eq_ediv_of_nonneg _ (by omega)
  rw [e]
  have h2 : 0 ≤ x → 0 ≤ x / 2 ^ n ∧ x / 2 ^ n ≤ x := fun h => ⟨Int.ediv_nonneg h (by omega), Int.ediv_le_self _ h⟩
  have h3 : x < 0 → x ≤ x / 2 ^ n ∧ x / 2 ^ n < 0 := fun h => ⟨by
    have := Int.le_ediv_of_mul_le (a := x) (b := x) (c := 2 ^ n) hp (by
      have : x * 2 ^ n ≤ x * 1 := Int.mul_le_mul_of_nonpos_left (by omega) (by omega)
      omega)
    exact this, Int.ediv_neg_of_neg_of_pos h hp⟩
  simp only [Lit.wf, Bool.and_eq_true, decide_eq_true_eq]
  cases k <;> simp only [minOf, maxOf] at hx <;> simp only [IntKind.min, IntKind.max, IntKind.signed, IntKind.bits] <;> simp at hx ⊢ <;> omega
theorem zar_wf {op : BinOp} {k : IntKind} {x y c : Int} (h : zar op k x y = some c) (hx : (Lit.int k x).wf = true) : (Lit.int k c).wf = true := by
  cases op <;> simp only [zar, Option.some.injEq] at h <;> (try cases h) <;> (try exact wrap_wf _ _)
  case quo => split at h <;> cases h; exact wrap_wf _ _
  case rem => split at h <;> cases h; exact tmod_wf hx
  case shl => split at h <;> cases h; exact wrap_wf _ _
  case shr => split at h <;> cases h; exact fdiv_wf hx _

/-! ### Bits -/
theorem ofInt_sgn (k : IntKind) {u : Nat} (h : u < modOf k) : (BitVec.ofInt k.bits (sgn k u)).toNat = u := by
  rw [BitVec.toNat_ofInt]
  have h1 := sgn_mod k h
  rw [modOf_bits] at h1
  omega
theorem wrap_nat (k : IntKind) {u : Nat} (h : u < modOf k) : k.wrap (u : Int) = sgn k u := wrap_eq k h (Int.emod_eq_of_lt (by omega) (by omega))
theorem land_lt (k : IntKind) {a b : Nat} (h : a < modOf k) : Nat.land a b < modOf k := Nat.lt_of_le_of_lt Nat.and_le_left h
theorem lor_lt (k : IntKind) {a b : Nat} (h : a < modOf k) (h' : b < modOf k) : Nat.lor a b < modOf k := by rw [modOf_bits] at *; exact Nat.or_lt_two_pow h h'
theorem xor_lt (k : IntKind) {a b : Nat} (h : a < modOf k) (h' : b < modOf k) : Nat.xor a b < modOf k := by rw [modOf_bits] at *; exact Nat.xor_lt_two_pow h h'
theorem xor_ones (k : IntKind) {b : Nat} (h : b < modOf k) : Nat.xor b (modOf k - 1) = modOf k - 1 - b := by
  rw [modOf_bits] at *
  apply Nat.eq_of_testBit_eq
  intro i
  show (b ^^^ (2 ^ k.bits - 1)).testBit i = _
  rw [Nat.testBit_xor, Nat.testBit_two_pow_sub_one, show 2 ^ k.bits - 1 - b = 2 ^ k.bits - (b + 1) by omega, Nat.testBit_two_pow_sub_succ h]
  by_cases c : i < k.bits
  · simp [c]
  · have : b.testBit i = false := Nat.testBit_lt_two_pow (Nat.lt_of_lt_of_le h (Nat.pow_le_pow_right (by decide) (by omega)))
    simp [c, this]

theorem pow2_coe (n : Nat) : (2 : Int) ^ n = ((2 ^ n : Nat) : Int) := by simp
theorem shrU_eq (k : IntKind) {a : Nat} (h : a < modOf k) (n : Nat) : shrU (halfOf k) (modOf k) a n < modOf k ∧ sgn k (shrU (halfOf k) (modOf k) a n) = (sgn k a).fdiv (2 ^ n) := by
  have hp : 0 < 2 ^ n := Nat.pow_pos (by decide)
  unfold shrU
  rw [blt_iff, pow2_coe, Int.fdiv_eq_ediv_of_nonneg _ (Int.natCast_nonneg _)]
  by_cases c : a < halfOf k
  · rw [decide_eq_true c]
    have hle : a / 2 ^ n ≤ a := Nat.div_le_self _ _
    have h1 : a / 2 ^ n < halfOf k := by omega
    refine ⟨?_, ?_⟩
    · show a / 2 ^ n < _; omega
    · show sgn k (a / 2 ^ n) = _
      rw [sgn_nat k h1, sgn_nat k c]
      exact (Int.natCast_ediv _ _)
  · rw [decide_eq_false c]
    show modOf k - 1 - (modOf k - 1 - a) / 2 ^ n < _ ∧ sgn k (modOf k - 1 - (modOf k - 1 - a) / 2 ^ n) = _
    have hm := modOf_pos k
    have hle : (modOf k - 1 - a) / 2 ^ n ≤ modOf k - 1 - a := Nat.div_le_self _ _
    have e : (a : Int) - modOf k = Int.negSucc (modOf k - 1 - a) := by omega
    have e2 : (Int.negSucc (modOf k - 1 - a)) / ((2 ^ n : Nat) : Int) = -((((modOf k - 1 - a) / 2 ^ n : Nat) : Int) + 1) := by
      rw [Int.negSucc_ediv _ (by omega)]
      have : ((modOf k - 1 - a : Nat) : Int) / ((2 ^ n : Nat) : Int) = (((modOf k - 1 - a) / 2 ^ n : Nat) : Int) := (Int.natCast_ediv _ _).symm
      show -(((modOf k - 1 - a : Nat) : Int) / ((2 ^ n : Nat) : Int) + 1) = _
      rw [this]
    generalize (modOf k - 1 - a) / 2 ^ n = d at *
    refine ⟨by omega, ?_⟩
    rw [sgn_eq k (by omega), if_neg (by omega), sgn_eq k h, if_neg c, e, e2]
    omega

/-- The quick function is the language's. -/
theorem arU_zar {op : BinOp} {k : IntKind} {a b c : Nat} {y : Int} (h : arU op k (halfOf k) (modOf k) a b = some c) (ha : a < modOf k) (hb : isShift op = false → b < modOf k ∧ y = sgn k b) (hs : isShift op = true → y = b) :
    c < modOf k ∧ zar op k (sgn k a) y = some (sgn k c) := by
  have hm := modOf_pos k
  have ma := sgn_mod k ha
  have lt : ∀ n : Nat, n % modOf k < modOf k := fun n => Nat.mod_lt _ hm
  have cast : ∀ n : Nat, ((n % modOf k : Nat) : Int) = (n : Int) % (modOf k : Int) := fun n => Int.natCast_emod n _
  cases op <;> simp only [arU, Option.some.injEq] at h <;> (try cases h)
  case add =>
    obtain ⟨hb', rfl⟩ := hb rfl
    refine ⟨lt _, ?_⟩
    simp only [zar]
    rw [wrap_eq k (lt (a + b))]
    · rfl
    · rw [cast, Int.add_emod, ma, sgn_mod k hb']; rfl
  case sub =>
    obtain ⟨hb', rfl⟩ := hb rfl
    refine ⟨lt _, ?_⟩
    simp only [zar]
    rw [wrap_eq k (lt (a + (modOf k - b)))]
    · rfl
    · rw [cast, Int.sub_emod, ma, sgn_mod k hb']
      have : ((a + (modOf k - b) : Nat) : Int) = (a : Int) - b + modOf k := by omega
      rw [this, Int.add_emod_right]
  case mul =>
    obtain ⟨hb', rfl⟩ := hb rfl
    refine ⟨lt _, ?_⟩
    simp only [zar]
    rw [wrap_eq k (lt (a * b))]
    · rfl
    · rw [cast, Int.mul_emod, ma, sgn_mod k hb']; rw [Int.natCast_mul]
  case quo =>
    obtain ⟨hb', rfl⟩ := hb rfl
    obtain ⟨h1, h⟩ := bif_some h
    simp only [Bool.and_eq_true, blt_iff, decide_eq_true_eq] at h1
    rw [natCase_eq] at h
    cases b with
    | zero => cases h
    | succ b =>
      cases h
      have hle : a / (b + 1) ≤ a := Nat.div_le_self _ _
      refine ⟨by show a / (b + 1) < _; omega, ?_⟩
      rw [sgn_nat k h1.1, sgn_nat k h1.2]
      simp only [zar]
      rw [if_neg (by omega)]
      have : (a : Int).tdiv ((b + 1 : Nat) : Int) = ((a / (b + 1) : Nat) : Int) := by rw [Int.tdiv_eq_ediv_of_nonneg (by omega)]; exact (Int.natCast_ediv _ _).symm
      rw [this, wrap_nat k (by omega)]; rfl
  case rem =>
    obtain ⟨hb', rfl⟩ := hb rfl
    obtain ⟨h1, h⟩ := bif_some h
    simp only [Bool.and_eq_true, blt_iff, decide_eq_true_eq] at h1
    rw [natCase_eq] at h
    cases b with
    | zero => cases h
    | succ b =>
      cases h
      have hle : a % (b + 1) ≤ a := Nat.mod_le _ _
      refine ⟨by show a % (b + 1) < _; omega, ?_⟩
      rw [sgn_nat k h1.1, sgn_nat k h1.2]
      simp only [zar]
      rw [if_neg (by omega)]
      have : (a : Int).tmod ((b + 1 : Nat) : Int) = ((a % (b + 1) : Nat) : Int) := by rw [Int.tmod_eq_emod_of_nonneg (by omega)]; exact (Int.natCast_emod _ _).symm
      rw [this, ← sgn_nat k (u := a % (b + 1)) (by omega)]; rfl
  case and =>
    obtain ⟨hb', rfl⟩ := hb rfl
    refine ⟨land_lt k ha, ?_⟩
    simp only [zar, BitVec.toNat_and, ofInt_sgn k ha, ofInt_sgn k hb']
    rw [← wrap_nat k (land_lt k ha)]; rfl
  case or =>
    obtain ⟨hb', rfl⟩ := hb rfl
    refine ⟨lor_lt k ha hb', ?_⟩
    simp only [zar, BitVec.toNat_or, ofInt_sgn k ha, ofInt_sgn k hb']
    rw [← wrap_nat k (lor_lt k ha hb')]; rfl
  case xor =>
    obtain ⟨hb', rfl⟩ := hb rfl
    refine ⟨xor_lt k ha hb', ?_⟩
    simp only [zar, BitVec.toNat_xor, ofInt_sgn k ha, ofInt_sgn k hb']
    rw [← wrap_nat k (xor_lt k ha hb')]; rfl
  case andNot =>
    obtain ⟨hb', rfl⟩ := hb rfl
    refine ⟨land_lt k ha, ?_⟩
    simp only [zar, BitVec.toNat_and, BitVec.toNat_not, ofInt_sgn k ha, ofInt_sgn k hb']
    rw [← wrap_nat k (land_lt k ha)]
    show some (k.wrap ((a &&& (2 ^ k.bits - 1 - b) : Nat) : Int)) = some (k.wrap ((Nat.land a (Nat.xor b (modOf k - 1)) : Nat) : Int))
    rw [xor_ones k hb', modOf_bits]; rfl
  case shl =>
    have hy := hs rfl
    subst hy
    refine ⟨lt _, ?_⟩
    simp only [zar]
    rw [if_neg (by omega), wrap_eq k (lt (a * 2 ^ nmin b (bitsOf k)))]
    · rfl
    · have : (a : Int) % (modOf k : Int) = a := Int.emod_eq_of_lt (by omega) (by omega)
      rw [cast, nmin_eq, bitsOf_eq, Int.toNat_natCast, pow2_coe, Int.mul_emod, ma, Int.natCast_mul]
      conv => rhs; rw [Int.mul_emod, this]
  case shr =>
    have hy := hs rfl
    subst hy
    have := shrU_eq k ha (nmin b (bitsOf k))
    refine ⟨this.1, ?_⟩
    simp only [zar]
    rw [if_neg (by omega), this.2, nmin_eq, bitsOf_eq, Int.toNat_natCast]
theorem sltU_eq (k : IntKind) {a b : Nat} (ha : a < modOf k) (hb : b < modOf k) : sltU (halfOf k) a b = decide (sgn k a < sgn k b) := by
  unfold sltU
  rw [blt_iff, blt_iff, blt_iff, sgn_eq k ha, sgn_eq k hb]
  by_cases c : a < halfOf k <;> by_cases d : b < halfOf k <;> simp only [c, d, decide_true, decide_false, if_true, if_false, bif_true, bif_false]
  · congr 1; apply propext; omega
  · symm; rw [decide_eq_false_iff_not]; omega
  · symm; rw [decide_eq_true_eq]; omega
  · congr 1; apply propext; omega
theorem cmU_zcm {op : BinOp} {k : IntKind} {a b : Nat} {r : Bool} (h : cmU op (halfOf k) a b = some r) (ha : a < modOf k) (hb : b < modOf k) : zcm op (sgn k a) (sgn k b) = some r := by
  have e : decide (sgn k a = sgn k b) = decide (a = b) := by
    congr 1; apply propext; exact ⟨sgn_inj k ha hb, fun h => by rw [h]⟩
  cases op <;> simp only [cmU, Option.some.injEq] at h <;> (try cases h) <;> simp only [zcm, Option.some.injEq]
  · rw [e, beq_iff]
  · rw [beq_iff, ← e, ← decide_not]
  · rw [sltU_eq k ha hb]
  · rw [sltU_eq k hb ha, ← decide_not]; congr 1; apply propext; omega
  · rw [sltU_eq k hb ha]
  · rw [sltU_eq k ha hb, ← decide_not]; congr 1; apply propext; omega
theorem convU_eq (j k : IntKind) {u : Nat} (h : u < modOf j) : convU j k u < modOf k ∧ k.wrap (sgn j u) = sgn k (convU j k u) := by
  have hlt : convU j k u < modOf k := Nat.mod_lt _ (modOf_pos k)
  refine ⟨hlt, wrap_eq k hlt ?_⟩
  show _ = ((sextU j u % modOf k : Nat) : Int)
  rw [Int.natCast_emod]
  have key : ((sextU j u : Nat) : Int) = sgn j u ∨ ((sextU j u : Nat) : Int) = sgn j u + 18446744073709551616 := by
    rw [sgn_eq j h]
    unfold sextU
    rw [blt_iff]
    by_cases c : u < halfOf j
    · rw [decide_eq_true c, if_pos c]; exact .inl rfl
    · rw [decide_eq_false c, if_neg c]
      right
      show ((u + (18446744073709551616 - modOf j) : Nat) : Int) = _
      have : modOf j ≤ 18446744073709551616 := by cases j <;> decide
      omega
  rcases key with e | e
  · rw [e]
  · rw [e]; symm
    have : (18446744073709551616 : Int) % (modOf k : Int) = 0 := by cases k <;> rfl
    rw [Int.add_emod, this, Int.add_zero, Int.emod_emod]
end Go.Sy
/-! Terms: what they stand for; facts; what is owed. -/
namespace Go.Sy

inductive D where
  | i (n : Int)
  | b (b : Bool)
  | a (l : List Value)
structure Va where
  z : List Int
  a : List (List Value)

open Classical in
noncomputable def T.ev (ρ : Va) : T → Option D
  | .z n => some (.i n)
  | .zv i => (ρ.z[i]?).map .i
  | .bin op k x y => match x.ev ρ, y.ev ρ with
    | some (.i a), some (.i b) => (zar op k a b).map .i
    | _, _ => none
  | .conv k x => match x.ev ρ with
    | some (.i a) => some (.i (k.wrap a))
    | _ => none
  | .sel a i => match a.ev ρ, i.ev ρ with
    | some (.a l), some (.i n) => if 0 ≤ n then (match l[n.toNat]? with | some (.int _ m) => some (.i m) | _ => none) else none
    | _, _ => none
  | .alen a => match a.ev ρ with
    | some (.a l) => some (.i l.length)
    | _ => none
  | .av i => (ρ.a[i]?).map .a
  | .nila => some (.a [])
  | .app x y => match x.ev ρ, y.ev ρ with
    | some (.a l), some (.a m) => some (.a (l ++ m))
    | _, _ => none
  | .ci k x => match x.ev ρ with
    | some (.i n) => some (.a [.int k n])
    | _ => none
  | .cb c => match c.ev ρ with
    | some (.b b) => some (.a [.bool b])
    | _ => none
  | .bl b => some (.b b)
  | .cmp op x y => match x.ev ρ, y.ev ρ with
    | some (.i a), some (.i b) => (zcm op a b).map .b
    | _, _ => none
  | .not x => match x.ev ρ with
    | some (.b b) => some (.b (!b))
    | _ => none
  | .and x y => match x.ev ρ, y.ev ρ with
    | some (.b a), some (.b b) => some (.b (a && b))
    | _, _ => none
  | .selb a i => match a.ev ρ, i.ev ρ with
    | some (.a l), some (.i n) => if 0 ≤ n then (match l[n.toNat]? with | some (.bool m) => some (.b m) | _ => none) else none
    | _, _ => none
  | .aeq x y => match x.ev ρ, y.ev ρ with
    | some (.a l), some (.a m) => some (.b (decide (l = m)))
    | _, _ => none
  | .sub x i j => match x.ev ρ, i.ev ρ, j.ev ρ with
    | some (.a l), some (.i m), some (.i n) => if 0 ≤ m ∧ m ≤ n ∧ n ≤ l.length then some (.a ((l.take n.toNat).drop m.toNat)) else none
    | _, _, _ => none
  | .upd x i y => match x.ev ρ, i.ev ρ, y.ev ρ with
    | some (.a l), some (.i m), some (.a p) => if 0 ≤ m ∧ m + p.length ≤ l.length then some (.a (l.take m.toNat ++ p ++ l.drop (m.toNat + p.length))) else none
    | _, _, _ => none
  | .typ c x => match x.ev ρ with
    | some (.a l) => some (.a (typI c l))
    | _ => none

def Va.Le (ρ ρ' : Va) : Prop := (∀ (i : Nat) (n : Int), ρ.z[i]? = some n → ρ'.z[i]? = some n) ∧ (∀ (i : Nat) (l : List Value), ρ.a[i]? = some l → ρ'.a[i]? = some l)
theorem Va.Le.refl (ρ : Va) : ρ.Le ρ := ⟨fun _ _ h => h, fun _ _ h => h⟩
theorem Va.Le.trans {a b c : Va} (h : a.Le b) (h' : b.Le c) : a.Le c := ⟨fun i n e => h'.1 i n (h.1 i n e), fun i n e => h'.2 i n (h.2 i n e)⟩
theorem ev_mono {ρ ρ' : Va} (h : ρ.Le ρ') : ∀ {t : T} {d : D}, t.ev ρ = some d → t.ev ρ' = some d := by
  intro t
  induction t with
  | z n => exact fun h => h
  | zv i =>
    intro d hd
    simp only [T.ev, Option.map_eq_some_iff] at hd ⊢
    obtain ⟨n, h1, h2⟩ := hd
    exact ⟨n, h.1 _ _ h1, h2⟩
  | av i =>
    intro d hd
    simp only [T.ev, Option.map_eq_some_iff] at hd ⊢
    obtain ⟨n, h1, h2⟩ := hd
    exact ⟨n, h.2 _ _ h1, h2⟩
  | nila => exact fun h => h
  | bl b => exact fun h => h
  | typ c x ih | conv k x ih | alen x ih | ci k x ih | cb x ih | not x ih =>
    intro d hd
    cases hx : x.ev ρ with
    | none => simp [T.ev, hx] at hd
    | some p => have := ih hx; simp only [T.ev, hx] at hd; simp only [T.ev, this]; exact hd
  | bin op k x y ih1 ih2 | sel x y ih1 ih2 | app x y ih1 ih2 | cmp op x y ih1 ih2 | and x y ih1 ih2 | selb x y ih1 ih2 | aeq x y ih1 ih2 =>
    intro d hd
    cases hx : x.ev ρ with
    | none => simp [T.ev, hx] at hd
    | some p =>
      cases hy : y.ev ρ with
      | none => simp [T.ev, hx, hy] at hd
      | some q =>
        have h1 := ih1 hx
        have h2 := ih2 hy
        simp only [T.ev, hx, hy] at hd
        simp only [T.ev, h1, h2]
        exact hd
  | sub x y z ih1 ih2 ih3 | upd x y z ih1 ih2 ih3 =>
    intro d hd
    cases hx : x.ev ρ with
    | none => simp [T.ev, hx] at hd
    | some p =>
      cases hy : y.ev ρ with
      | none => simp [T.ev, hx, hy] at hd
      | some q =>
        cases hz : z.ev ρ with
        | none => simp [T.ev, hx, hy, hz] at hd
        | some r =>
          have h1 := ih1 hx
          have h2 := ih2 hy
          have h3 := ih3 hz
          simp only [T.ev, hx, hy, hz] at hd
          simp only [T.ev, h1, h2, h3]
          exact hd

theorem T.beq_eq : ∀ {x y : T}, T.beq x y = true → x = y := by
  intro x
  induction x with
  | z n => intro y h; cases y <;> first | cases h; done | skip
           have h : ieq n _ = true := h
           rw [ieq_eq, decide_eq_true_eq] at h; rw [h]
  | zv i => intro y h; cases y <;> first | cases h; done | skip
            rw [Nat.eq_of_beq_eq_true h]
  | av i => intro y h; cases y <;> first | cases h; done | skip
            rw [Nat.eq_of_beq_eq_true h]
  | nila => intro y h; cases y <;> first | cases h; done | rfl
  | bl b => intro y h; cases y <;> first | cases h; done | skip
            have h : bbeq b _ = true := h
            rw [bbeq_eq, decide_eq_true_eq] at h; rw [h]
  | conv k x ih =>
    intro y h; cases y <;> first | cases h; done | skip
    rename_i k' a
    have h : (kbeq k k' && T.beq x a) = true := h
    rw [Bool.and_eq_true] at h
    rw [kbeq_eq h.1, ih h.2]
  | ci k x ih =>
    intro y h; cases y <;> first | cases h; done | skip
    rename_i k' a
    have h : (kbeq k k' && T.beq x a) = true := h
    rw [Bool.and_eq_true] at h
    rw [kbeq_eq h.1, ih h.2]
  | typ c x ih =>
    intro y h; cases y <;> first | cases h; done | skip
    rename_i k' a
    have h : (Nat.beq c k' && T.beq x a) = true := h
    rw [Bool.and_eq_true] at h
    rw [Nat.eq_of_beq_eq_true h.1, ih h.2]
  | alen x ih | cb x ih | not x ih =>
    intro y h; cases y <;> first | cases h; done | skip
    rename_i a
    have h : T.beq x a = true := h
    rw [ih h]
  | bin op k x y ih1 ih2 =>
    intro z h; cases z <;> first | cases h; done | skip
    rename_i op' k' a b
    have h : (bopEq op op' && (kbeq k k' && (T.beq x a && T.beq y b))) = true := h
    simp only [Bool.and_eq_true] at h
    rw [bopEq_eq h.1, kbeq_eq h.2.1, ih1 h.2.2.1, ih2 h.2.2.2]
  | cmp op x y ih1 ih2 =>
    intro z h; cases z <;> first | cases h; done | skip
    rename_i op' a b
    have h : (bopEq op op' && (T.beq x a && T.beq y b)) = true := h
    simp only [Bool.and_eq_true] at h
    rw [bopEq_eq h.1, ih1 h.2.1, ih2 h.2.2]
  | sel x y ih1 ih2 | app x y ih1 ih2 | and x y ih1 ih2 | selb x y ih1 ih2 | aeq x y ih1 ih2 =>
    intro z h; cases z <;> first | cases h; done | skip
    rename_i a b
    have h : (T.beq x a && T.beq y b) = true := h
    simp only [Bool.and_eq_true] at h
    rw [ih1 h.1, ih2 h.2]
  | sub x y z ih1 ih2 ih3 | upd x y z ih1 ih2 ih3 =>
    intro w h; cases w <;> first | cases h; done | skip
    rename_i a b c
    have h : (T.beq x a && (T.beq y b && T.beq z c)) = true := h
    simp only [Bool.and_eq_true] at h
    rw [ih1 h.1, ih2 h.2.1, ih3 h.2.2]

/-! ### Facts -/
def FOK (ρ : Va) (f : List T) : Prop := ∀ c ∈ f, c.ev ρ = some (.b true)
theorem FOK.mono {ρ ρ' : Va} (h : ρ.Le ρ') {f : List T} (hf : FOK ρ f) : FOK ρ' f := fun c hc => ev_mono h (hf c hc)
theorem FOK.tail {ρ : Va} {c : T} {f : List T} (h : FOK ρ (c :: f)) : FOK ρ f := fun d hd => h d (List.mem_cons_of_mem _ hd)
theorem FOK.cons {ρ : Va} {c : T} {f : List T} (hc : c.ev ρ = some (.b true)) (h : FOK ρ f) : FOK ρ (c :: f) := fun d hd => by
  rcases List.mem_cons.1 hd with rfl | hd
  · exact hc
  · exact h d hd

theorem cmp_inv {ρ : Va} {op : BinOp} {x y : T} {r : Bool} (h : (T.cmp op x y).ev ρ = some (.b r)) : ∃ n m, x.ev ρ = some (.i n) ∧ y.ev ρ = some (.i m) ∧ zcm op n m = some r := by
  cases hx : x.ev ρ with
  | none => simp [T.ev, hx] at h
  | some p =>
    cases hy : y.ev ρ with
    | none => simp [T.ev, hx, hy] at h
    | some q =>
      cases p <;> cases q <;> simp [T.ev, hx, hy] at h
      exact ⟨_, _, rfl, rfl, h⟩
theorem cmp_ev {ρ : Va} {op : BinOp} {x y : T} {n m : Int} (hx : x.ev ρ = some (.i n)) (hy : y.ev ρ = some (.i m)) : (T.cmp op x y).ev ρ = (zcm op n m).map .b := by
  simp only [T.ev, hx, hy]

/-- 0: less, 1: the same, 2: more. -/
def relB (n m : Int) : Nat := if n < m then 0 else if n = m then 1 else 2
theorem opMask_bit {op : BinOp} {n m : Int} {r : Bool} (h : zcm op n m = some r) : Nat.testBit (opMask op) (relB n m) = r := by
  unfold relB
  rcases Int.lt_trichotomy n m with c | c | c
  · rw [if_pos c]
    cases op <;> simp only [zcm, Option.some.injEq] at h <;> (try cases h) <;> simp only [opMask] <;> (first | exact (decide_eq_true (by omega)).symm | exact (decide_eq_false (by omega)).symm)
  · rw [if_neg (by omega), if_pos c]
    cases op <;> simp only [zcm, Option.some.injEq] at h <;> (try cases h) <;> simp only [opMask] <;> (first | exact (decide_eq_true (by omega)).symm | exact (decide_eq_false (by omega)).symm)
  · rw [if_neg (by omega), if_neg (by omega)]
    cases op <;> simp only [zcm, Option.some.injEq] at h <;> (try cases h) <;> simp only [opMask] <;> (first | exact (decide_eq_true (by omega)).symm | exact (decide_eq_false (by omega)).symm)
theorem relB_flip (n m : Int) : relB m n = 2 - relB n m := by
  unfold relB
  rcases Int.lt_trichotomy n m with c | c | c
  · rw [if_pos c, if_neg (by omega), if_neg (by omega)]
  · rw [if_neg (by omega), if_pos c.symm, if_neg (by omega), if_pos c]
  · rw [if_pos c, if_neg (by omega), if_neg (by omega)]
theorem relB_le (n m : Int) : relB n m ≤ 2 := by unfold relB; split <;> (try split) <;> omega
theorem flipM_bit {q b : Nat} (hq : q = 1 ∨ q = 2 ∨ q = 3 ∨ q = 4 ∨ q = 5 ∨ q = 6 ∨ q = 7) (hb : b ≤ 2) : Nat.testBit (flipM q) b = Nat.testBit q (2 - b) := by
  have : b = 0 ∨ b = 1 ∨ b = 2 := by omega
  rcases hq with rfl | rfl | rfl | rfl | rfl | rfl | rfl <;> rcases this with rfl | rfl | rfl <;> rfl
theorem opMask_vals (op : BinOp) : opMask op = 1 ∨ opMask op = 2 ∨ opMask op = 3 ∨ opMask op = 4 ∨ opMask op = 5 ∨ opMask op = 6 ∨ opMask op = 7 := by cases op <;> simp [opMask]
theorem land_bit (a b i : Nat) : Nat.testBit (Nat.land a b) i = (Nat.testBit a i && Nat.testBit b i) := Nat.testBit_and a b i
theorem maskF_bit {ρ : Va} {x y : T} {n m : Int} (hx : x.ev ρ = some (.i n)) (hy : y.ev ρ = some (.i m)) : ∀ {f : List T}, FOK ρ f → Nat.testBit (maskF x y f) (relB n m) = true
  | [], _ => by
    show Nat.testBit 7 _ = true
    have := relB_le n m
    have : relB n m = 0 ∨ relB n m = 1 ∨ relB n m = 2 := by omega
    rcases this with e | e | e <;> rw [e] <;> rfl
  | c :: f, h => by
    have ih := maskF_bit hx hy h.tail
    have hc := h c (by simp)
    cases c <;> try exact ih
    rename_i op a b
    show Nat.testBit (bif_ (T.beq a x && T.beq b y) (Nat.land (opMask op) (maskF x y f)) (bif_ (T.beq a y && T.beq b x) (Nat.land (flipM (opMask op)) (maskF x y f)) (maskF x y f))) _ = true
    obtain ⟨p, q, h1, h2, h3⟩ := cmp_inv hc
    cases e1 : T.beq a x && T.beq b y with
    | true =>
      rw [Bool.and_eq_true] at e1
      rw [T.beq_eq e1.1, hx] at h1; rw [T.beq_eq e1.2, hy] at h2
      cases h1; cases h2
      rw [bif_true, land_bit, ih, opMask_bit h3]; rfl
    | false =>
      rw [bif_false]
      cases e2 : T.beq a y && T.beq b x with
      | true =>
        rw [Bool.and_eq_true] at e2
        rw [T.beq_eq e2.1, hy] at h1; rw [T.beq_eq e2.2, hx] at h2
        cases h1; cases h2
        have := opMask_bit h3
        rw [bif_true, land_bit, ih, flipM_bit (opMask_vals op) (relB_le _ _), ← relB_flip, this]; rfl
      | false => exact ih
theorem imax_le {a b n : Int} (h : a ≤ n) (h' : b ≤ n) : imax a b ≤ n := by unfold imax; cases ilt a b <;> assumption
theorem le_imin {a b n : Int} (h : n ≤ a) (h' : n ≤ b) : n ≤ imin a b := by unfold imin; cases ilt a b <;> assumption
theorem isucc_eq (a : Int) : isucc a = a + 1 := by
  cases a with
  | ofNat n => rfl
  | negSucc n => cases n with
    | zero => rfl
    | succ n => show Int.negSucc n = Int.negSucc (n + 1) + 1; omega
theorem ipred_eq (a : Int) : ipred a = a - 1 := by
  cases a with
  | ofNat n => cases n with
    | zero => rfl
    | succ n => show Int.ofNat n = Int.ofNat (n + 1) - 1; simp
  | negSucc n => show Int.negSucc (n + 1) = Int.negSucc n - 1; omega
theorem zar_wraps {op : BinOp} {k : IntKind} {x y c : Int} (h : zar op k x y = some c) (hw : wraps op = true) : (Lit.int k c).wf = true := by
  cases op <;> simp only [zar, Option.some.injEq] at h <;> (try cases h) <;> (try exact wrap_wf _ _) <;> (try (cases hw; done))
  · split at h <;> cases h; exact wrap_wf _ _
  · split at h <;> cases h; exact wrap_wf _ _
theorem outB_bytes : ∀ {s : List Nat}, ∀ x ∈ Sha.outB s, x < 256
  | [], x, hx => by cases hx
  | y :: s, x, hx => by
    have hx : x ∈ (y >>> 24) % 256 :: (y >>> 16) % 256 :: (y >>> 8) % 256 :: (y >>> 0) % 256 :: Sha.outB s := hx
    simp only [List.mem_cons] at hx
    rcases hx with rfl | rfl | rfl | rfl | hx
    · exact Nat.mod_lt _ (by decide)
    · exact Nat.mod_lt _ (by decide)
    · exact Nat.mod_lt _ (by decide)
    · exact Nat.mod_lt _ (by decide)
    · exact outB_bytes x hx
theorem typ_sel {ρ : Va} {c : Nat} {x i : T} {n : Int} (h : (T.sel (.typ c x) i).ev ρ = some (.i n)) : 0 ≤ n ∧ n ≤ 255 := by
  cases h1 : (T.typ c x).ev ρ with
  | none => simp only [T.ev] at h1; simp [T.ev, h1] at h
  | some p =>
    cases h2 : i.ev ρ with
    | none =>
      unfold T.ev at h
      rw [h1, h2] at h
      cases p <;> simp at h
    | some q =>
      unfold T.ev at h
      rw [h1, h2] at h
      cases p <;> cases q <;> simp at h
      rename_i l m
      obtain ⟨hm, h⟩ := h
      split at h
      · rename_i k v hv
        cases h
        have hmem := List.mem_of_getElem? hv
        simp only [T.ev] at h1
        split at h1
        · cases h1
          unfold typI at hmem
          split at hmem
          · obtain ⟨u, hu, e⟩ := List.mem_map.1 hmem
            cases e
            have := outB_bytes _ hu
            omega
          · obtain ⟨u, hu, e⟩ := List.mem_map.1 hmem
            cases e
            unfold turnZ
            repeat' split
            all_goals omega
          · cases hmem
        · cases h1
      · cases h
theorem range0 {ρ : Va} {x : T} {n : Int} (hx : x.ev ρ = some (.i n)) : (∀ a, lo0 x = some a → a ≤ n) ∧ (∀ a, hi0 x = some a → n ≤ a) := by
  cases x with
  | z m =>
    simp only [T.ev, Option.some.injEq, D.i.injEq] at hx
    subst hx
    exact ⟨fun a h => by cases h; exact Int.le_refl _, fun a h => by cases h; exact Int.le_refl _⟩
  | bin op k x y =>
    cases h1 : x.ev ρ with
    | none => simp [T.ev, h1] at hx
    | some p =>
      cases h2 : y.ev ρ with
      | none => simp [T.ev, h1, h2] at hx
      | some q =>
        cases p <;> cases q <;> simp [T.ev, h1, h2] at hx
        cases hw : wraps op with
        | false => exact ⟨fun a h => by simp [lo0, hw] at h, fun a h => by simp [hi0, hw] at h⟩
        | true =>
          have := wf_range (zar_wraps hx hw)
          exact ⟨fun a h => by simp [lo0, hw] at h; rw [← h]; exact this.1, fun a h => by simp [hi0, hw] at h; rw [← h]; exact this.2⟩
  | conv k x =>
    cases h1 : x.ev ρ with
    | none => simp [T.ev, h1] at hx
    | some p =>
      cases p <;> simp [T.ev, h1] at hx
      subst hx
      have := wf_range (wrap_wf k ‹_›)
      exact ⟨fun a h => by cases h; exact this.1, fun a h => by cases h; exact this.2⟩
  | alen x =>
    refine ⟨fun a h => ?_, fun a h => (nomatch h)⟩
    cases h
    cases h1 : x.ev ρ with
    | none => simp [T.ev, h1] at hx
    | some p =>
      cases p <;> simp [T.ev, h1] at hx
      subst hx
      exact Int.natCast_nonneg _
  | sel x y =>
    cases x with
    | typ c x => have := typ_sel hx; exact ⟨fun a h => by cases h; exact this.1, fun a h => by cases h; exact this.2⟩
    | _ => exact ⟨fun a h => (nomatch h), fun a h => (nomatch h)⟩
  | _ => exact ⟨fun a h => (nomatch h), fun a h => (nomatch h)⟩
theorem loF_le {ρ : Va} {x : T} {n : Int} (hx : x.ev ρ = some (.i n)) : ∀ {f : List T}, FOK ρ f → ∀ a, loF x f = some a → a ≤ n
  | [], _, a, h => (range0 hx).1 a h
  | c :: f, hf, a, h => by
    have ih := loF_le hx hf.tail
    have hc := hf c (by simp)
    cases c <;> try exact ih a h
    rename_i op p q
    cases q <;> try exact ih a h
    rename_i m
    have h : bif_ (T.beq p x) (loOp m (loF x f) op) (loF x f) = some a := h
    cases e : T.beq p x with
    | false => rw [e] at h; exact ih a h
    | true =>
      rw [e] at h
      obtain ⟨u, v, h1, h2, h3⟩ := cmp_inv hc
      rw [T.beq_eq e, hx] at h1
      simp only [T.ev, Option.some.injEq, D.i.injEq] at h2
      cases h1; subst h2
      have om : ∀ b : Int, b ≤ n → omax b (loF x f) = some a → a ≤ n := by
        intro b hb h
        cases hl : loF x f with
        | none => rw [hl] at h; cases h; exact hb
        | some d => rw [hl] at h; cases h; exact imax_le hb (ih d hl)
      have h : loOp m (loF x f) op = some a := h
      cases op <;> simp only [loOp] at h <;> (try exact ih a h)
      · simp only [zcm, Option.some.injEq, decide_eq_true_eq] at h3; exact om _ (by omega) h
      · simp only [zcm, Option.some.injEq, decide_eq_true_eq] at h3; rw [isucc_eq] at h; exact om _ (by omega) h
      · simp only [zcm, Option.some.injEq, decide_eq_true_eq] at h3; exact om _ (by omega) h
theorem le_hiF {ρ : Va} {x : T} {n : Int} (hx : x.ev ρ = some (.i n)) : ∀ {f : List T}, FOK ρ f → ∀ a, hiF x f = some a → n ≤ a
  | [], _, a, h => (range0 hx).2 a h
  | c :: f, hf, a, h => by
    have ih := le_hiF hx hf.tail
    have hc := hf c (by simp)
    cases c <;> try exact ih a h
    rename_i op p q
    cases q <;> try exact ih a h
    rename_i m
    have h : bif_ (T.beq p x) (hiOp m (hiF x f) op) (hiF x f) = some a := h
    cases e : T.beq p x with
    | false => rw [e] at h; exact ih a h
    | true =>
      rw [e] at h
      obtain ⟨u, v, h1, h2, h3⟩ := cmp_inv hc
      rw [T.beq_eq e, hx] at h1
      simp only [T.ev, Option.some.injEq, D.i.injEq] at h2
      cases h1; subst h2
      have om : ∀ b : Int, n ≤ b → omin b (hiF x f) = some a → n ≤ a := by
        intro b hb h
        cases hl : hiF x f with
        | none => rw [hl] at h; cases h; exact hb
        | some d => rw [hl] at h; cases h; exact le_imin hb (ih d hl)
      have h : hiOp m (hiF x f) op = some a := h
      cases op <;> simp only [hiOp] at h <;> (try exact ih a h)
      · simp only [zcm, Option.some.injEq, decide_eq_true_eq] at h3; exact om _ (by omega) h
      · simp only [zcm, Option.some.injEq, decide_eq_true_eq] at h3; rw [ipred_eq] at h; exact om _ (by omega) h
      · simp only [zcm, Option.some.injEq, decide_eq_true_eq] at h3; exact om _ (by omega) h
theorem maskHL_vals (p q : Option Int) : maskHL p q = 1 ∨ maskHL p q = 3 ∨ maskHL p q = 7 := by
  cases p with
  | none => exact .inr (.inr rfl)
  | some a =>
    cases q with
    | none => exact .inr (.inr rfl)
    | some b =>
      show bif_ (ilt a b) 1 (bif_ (ieq a b) 3 7) = 1 ∨ bif_ (ilt a b) 1 (bif_ (ieq a b) 3 7) = 3 ∨ bif_ (ilt a b) 1 (bif_ (ieq a b) 3 7) = 7
      cases ilt a b with
      | true => exact .inl rfl
      | false => cases ieq a b with
        | true => exact .inr (.inl rfl)
        | false => exact .inr (.inr rfl)
theorem maskHL_bit {n m : Int} {p q : Option Int} (hp : ∀ a, p = some a → n ≤ a) (hq : ∀ a, q = some a → a ≤ m) : Nat.testBit (maskHL p q) (relB n m) = true := by
  have seven : Nat.testBit 7 (relB n m) = true := by
    have := relB_le n m
    have : relB n m = 0 ∨ relB n m = 1 ∨ relB n m = 2 := by omega
    rcases this with e | e | e <;> rw [e] <;> rfl
  cases p with
  | none => exact seven
  | some a =>
    cases q with
    | none => exact seven
    | some b =>
      have h1 := hp a rfl
      have h2 := hq b rfl
      show Nat.testBit (bif_ (ilt a b) 1 (bif_ (ieq a b) 3 7)) _ = true
      rw [ilt_eq, ieq_eq]
      by_cases c : a < b
      · rw [decide_eq_true c, bif_true]
        have : relB n m = 0 := by unfold relB; rw [if_pos (by omega)]
        rw [this]; rfl
      · rw [decide_eq_false c, bif_false]
        by_cases e : a = b
        · rw [decide_eq_true e, bif_true]
          have : relB n m = 0 ∨ relB n m = 1 := by unfold relB; split <;> (try split) <;> omega
          rcases this with e | e <;> rw [e] <;> rfl
        · rw [decide_eq_false e]; exact seven
theorem relM_bit {ρ : Va} {f : List T} (hf : FOK ρ f) {x y : T} {n m : Int} (hx : x.ev ρ = some (.i n)) (hy : y.ev ρ = some (.i m)) : Nat.testBit (relM f x y) (relB n m) = true := by
  unfold relM
  cases e : T.beq x y with
  | true =>
    rw [T.beq_eq e, hy] at hx
    have hnm : m = n := by injection hx with hx; injection hx
    have : relB n m = 1 := by unfold relB; rw [if_neg (by omega), if_pos hnm.symm]
    rw [this, bif_true]; rfl
  | false =>
    rw [bif_false, land_bit, land_bit, maskF_bit hx hy hf, maskHL_bit (le_hiF hx hf) (loF_le hy hf)]
    rw [flipM_bit (by rcases maskHL_vals (hiF y f) (loF x f) with h | h | h <;> simp [h]) (relB_le _ _), ← relB_flip, maskHL_bit (le_hiF hy hf) (loF_le hx hf)]
    rfl
theorem mask3_bit {q p b : Nat} {r : Bool} (h : mask3 q p = some r) (hb : Nat.testBit q b = true) : Nat.testBit p b = r := by
  unfold mask3 at h
  cases e : Nat.beq (Nat.land q p) q with
  | true =>
    rw [e] at h
    cases h
    have e := Nat.eq_of_beq_eq_true e
    have := land_bit q p b
    rw [e, hb] at this
    simpa using this.symm
  | false =>
    rw [e, bif_false] at h
    cases e2 : Nat.beq (Nat.land q p) 0 with
    | true =>
      rw [e2] at h
      cases h
      have e2 := Nat.eq_of_beq_eq_true e2
      have := land_bit q p b
      rw [e2, hb] at this
      simpa using this.symm
    | false => rw [e2] at h; cases h
theorem memT_mem {c : T} : ∀ {f : List T}, memT c f = true → c ∈ f
  | [], h => by cases h
  | d :: f, h => by
    have h : (Bool.rec (memT c f) true (T.beq d c) : Bool) = true := h
    cases e : T.beq d c with
    | true => rw [T.beq_eq e]; simp
    | false => rw [e] at h; exact List.mem_cons_of_mem _ (memT_mem h)
theorem not_inv {ρ : Va} {x : T} {r : Bool} (h : (T.not x).ev ρ = some (.b r)) : x.ev ρ = some (.b (!r)) := by
  cases hx : x.ev ρ with
  | none => simp [T.ev, hx] at h
  | some p => cases p <;> simp [T.ev, hx] at h; subst h; simp
theorem lookT_sound {ρ : Va} {f : List T} (hf : FOK ρ f) {c : T} {b r : Bool} (h : lookT c f = some b) (hc : c.ev ρ = some (.b r)) : r = b := by
  unfold lookT at h
  cases e : memT c f with
  | true =>
    rw [e] at h; cases h
    have := hf c (memT_mem e)
    rw [hc] at this; cases this; rfl
  | false =>
    rw [e, bif_false] at h
    cases e2 : memT (.not c) f with
    | true =>
      rw [e2] at h; cases h
      have := not_inv (hf _ (memT_mem e2))
      rw [hc] at this; cases this; rfl
    | false => rw [e2] at h; cases h
theorem and_inv {ρ : Va} {x y : T} {r : Bool} (h : (T.and x y).ev ρ = some (.b r)) : ∃ a b, x.ev ρ = some (.b a) ∧ y.ev ρ = some (.b b) ∧ r = (a && b) := by
  cases hx : x.ev ρ with
  | none => simp [T.ev, hx] at h
  | some p =>
    cases hy : y.ev ρ with
    | none => simp [T.ev, hx, hy] at h
    | some q =>
      cases p <;> cases q <;> simp [T.ev, hx, hy] at h
      exact ⟨_, _, rfl, rfl, h.symm⟩
theorem dec_sound {ρ : Va} {f : List T} (hf : FOK ρ f) : ∀ {c : T} {b r : Bool}, dec f c = some b → c.ev ρ = some (.b r) → r = b := by
  intro c
  induction c with
  | bl v => intro b r h hc; cases h; cases hc; rfl
  | cmp op x y _ _ =>
    intro b r h hc
    obtain ⟨n, m, h1, h2, h3⟩ := cmp_inv hc
    have := mask3_bit h (relM_bit hf h1 h2)
    rw [opMask_bit h3] at this; exact this
  | not x ih =>
    intro b r h hc
    have hx := not_inv hc
    have h : notO (dec f x) = some b := h
    cases e : dec f x with
    | none => rw [e] at h; cases h
    | some p =>
      rw [e] at h; cases h
      have := ih e hx
      cases r <;> cases p <;> simp_all
  | and x y ih1 ih2 =>
    intro b r h hc
    obtain ⟨p, q, h1, h2, rfl⟩ := and_inv hc
    have h : (Option.rec (lookT (.and x y) f) (fun b => some b) (andO (dec f x) (dec f y)) : Option Bool) = some b := h
    have fin : lookT (.and x y) f = some b → (p && q) = b := fun h => lookT_sound hf h hc
    cases e1 : dec f x with
    | none =>
      cases e2 : dec f y with
      | none => rw [e1, e2] at h; exact fin h
      | some v =>
        rw [e1, e2] at h
        cases v with
        | true => exact fin h
        | false => cases h; rw [ih2 e2 h2]; simp
    | some u =>
      cases u with
      | false => rw [e1] at h; cases h; rw [ih1 e1 h1]; simp
      | true =>
        have := ih1 e1 h1
        subst this
        cases e2 : dec f y with
        | none => rw [e1, e2] at h; exact fin h
        | some v => rw [e1, e2] at h; cases h; rw [ih2 e2 h2]; simp
  | selb x y _ _ => intro b r h hc; exact lookT_sound hf h hc
  | aeq x y _ _ =>
    intro b r h hc
    have h : bif_ (T.beq x y) (some true) (lookT (.aeq x y) f) = some b := h
    cases e : T.beq x y with
    | true =>
      rw [e] at h; cases h
      have e := T.beq_eq e
      subst e
      cases hx : x.ev ρ with
      | none => simp [T.ev, hx] at hc
      | some p => cases p <;> simp [T.ev, hx] at hc; exact hc
    | false => rw [e] at h; exact lookT_sound hf h hc
  | typ c x _ => intro b r h hc; exact lookT_sound hf h hc
  | _ => intro b r h hc; cases h

theorem zcm_flip (op : BinOp) (n m : Int) : zcm (flipOp op) n m = zcm op m n := by
  cases op <;> simp only [flipOp, zcm, Option.some.injEq] <;> exact decide_eq_decide.2 (by omega)
theorem mkCmp_ev {ρ : Va} {op : BinOp} {x y : T} {n m : Int} (hx : x.ev ρ = some (.i n)) (hy : y.ev ρ = some (.i m)) : (mkCmp op x y).ev ρ = (zcm op n m).map .b := by
  unfold mkCmp
  cases isZ x with
  | true => rw [bif_true, cmp_ev hy hx, zcm_flip]
  | false => exact cmp_ev hx hy
theorem zcm_neg {op : BinOp} {n m : Int} {r : Bool} (h : zcm op n m = some r) : zcm (negOp op) n m = some (!r) := by
  cases op <;> simp only [zcm, Option.some.injEq] at h <;> (try cases h) <;> simp only [negOp, zcm, Option.some.injEq] <;> rw [← decide_not] <;> exact decide_eq_decide.2 (by omega)
theorem mkNot_ev {ρ : Va} {c : T} {r : Bool} (h : c.ev ρ = some (.b r)) : (mkNot c).ev ρ = some (.b (!r)) := by
  have plain : (T.not c).ev ρ = some (.b (!r)) := by simp only [T.ev, h]
  cases c with
  | bl b => cases h; rfl
  | cmp op x y =>
    obtain ⟨n, m, h1, h2, h3⟩ := cmp_inv h
    show (T.cmp (negOp op) x y).ev ρ = _
    rw [cmp_ev h1 h2, zcm_neg h3]; rfl
  | not x => exact not_inv h
  | _ => exact plain
theorem addF_ok {ρ : Va} {c : T} (hc : c.ev ρ = some (.b true)) : ∀ {f : List T}, FOK ρ f → FOK ρ (addF c f) := by
  induction c with
  | cmp op x y _ _ => intro f hf; exact hf.cons hc
  | not x _ => intro f hf; exact FOK.cons (by have := mkNot_ev (not_inv hc); simpa using this) hf
  | and x y ih1 ih2 =>
    intro f hf
    obtain ⟨a, b, h1, h2, h3⟩ := and_inv hc
    have h3 := h3.symm
    rw [Bool.and_eq_true] at h3
    obtain ⟨rfl, rfl⟩ := h3
    exact ih1 h1 (ih2 h2 hf)
  | selb x y _ _ => intro f hf; exact hf.cons hc
  | aeq x y _ _ => intro f hf; exact hf.cons hc
  | typ c x _ => intro f hf; exact hf.cons hc
  | _ => intro f hf; exact hf

/-! ### What is owed -/
abbrev Pred := Nat → List D → Prop
noncomputable def evL (ρ : Va) : List T → Option (List D)
  | [] => some []
  | t :: r => match t.ev ρ, evL ρ r with
    | some d, some l => some (d :: l)
    | _, _ => none
def ints : List D → Option (List Int)
  | [] => some []
  | .i n :: r => (ints r).map (n :: ·)
  | _ => none
def rows : List D → Option (List (List Value))
  | [] => some []
  | .a n :: r => (rows r).map (n :: ·)
  | _ => none
def D.toI : D → Int
  | .i n => n
  | _ => 0
noncomputable def Asm.holds (Θ : Pred) (ρ : Va) : Asm → Prop
  | .c t => t.ev ρ = some (.b true)
  | .p i l => ∃ d, evL ρ l = some d ∧ Θ i d
  | .lt m x y => ∃ dx dy a b, evL ρ x = some dx ∧ evL ρ y = some dy ∧ m.ev ⟨dx.map D.toI, []⟩ = some (.i a) ∧ m.ev ⟨dy.map D.toI, []⟩ = some (.i b) ∧ 0 ≤ a ∧ a < b
noncomputable def Asms (Θ : Pred) (ρ : Va) (h : List Asm) : Prop := ∀ a ∈ h, a.holds Θ ρ
def Va.add (ρ : Va) (zs : List Int) (ws : List (List Value)) : Va := ⟨ρ.z ++ zs, ρ.a ++ ws⟩
theorem Va.le_add (ρ : Va) (zs : List Int) (ws : List (List Value)) : ρ.Le (ρ.add zs ws) :=
  ⟨fun i n h => by simp only [Va.add]; rw [List.getElem?_append_left (List.getElem?_eq_some_iff.1 h).1]; exact h,
   fun i n h => by simp only [Va.add]; rw [List.getElem?_append_left (List.getElem?_eq_some_iff.1 h).1]; exact h⟩
abbrev Back := List Int → List (List Value) → Prop
noncomputable def VC.holds (Θ : Pred) : VC → Va → List Back → Prop
  | .ok, _, _ => True
  | .bad, _, _ => False
  | .br c x y, ρ, R => (c.ev ρ = some (.b true) → x.holds Θ ρ R) ∧ (c.ev ρ = some (.b false) → y.holds Θ ρ R)
  | .need c x, ρ, R => c.ev ρ = some (.b true) ∧ x.holds Θ ρ R
  | .both x y, ρ, R => x.holds Θ ρ R ∧ y.holds Θ ρ R
  | .all nz na h x, ρ, R => ∀ zs ws, zs.length = nz → ws.length = na → Asms Θ (ρ.add zs ws) h → x.holds Θ (ρ.add zs ws) R
  | .must h, ρ, _ => Asms Θ ρ h

theorem triv_holds {Θ : Pred} : ∀ {v : VC} {ρ : Va} {R : List Back}, v.triv = true → v.holds Θ ρ R := by
  intro v
  induction v with
  | ok => intros; trivial
  | bad => intro ρ R h; cases h
  | br c x y ih1 ih2 =>
    intro ρ R h
    have h : (x.triv && y.triv) = true := h
    rw [Bool.and_eq_true] at h
    exact ⟨fun _ => ih1 h.1, fun _ => ih2 h.2⟩
  | need c x _ => intro ρ R h; cases h
  | both x y ih1 ih2 =>
    intro ρ R h
    have h : (x.triv && y.triv) = true := h
    rw [Bool.and_eq_true] at h
    exact ⟨ih1 h.1, ih2 h.2⟩
  | all nz na h x ih => intro ρ R h; exact fun zs ws _ _ _ => ih h
  | must => intro ρ R h; cases h

section
variable {Θ : Pred} {ρ : Va} {R : List Back}
theorem vbind_inv {α : Type} {o : Option α} {f : α → VC} (h : (vbind o f).holds Θ ρ R) : ∃ x, o = some x ∧ (f x).holds Θ ρ R := by
  cases o with
  | none => exact h.elim
  | some x => exact ⟨x, rfl, h⟩
theorem vif_inv {b : Bool} {x : VC} (h : (vif b x).holds Θ ρ R) : b = true ∧ x.holds Θ ρ R := by
  cases b with
  | false => exact h.elim
  | true => exact ⟨rfl, h⟩
theorem bif_holds {b : Bool} {x y : VC} (h : (bif_ b x y).holds Θ ρ R) : (b = true ∧ x.holds Θ ρ R) ∨ (b = false ∧ y.holds Θ ρ R) := by
  cases b with
  | false => exact .inr ⟨rfl, h⟩
  | true => exact .inl ⟨rfl, h⟩
theorem brec_holds {b : Bool} {x y : VC} (h : (Bool.rec y x b : VC).holds Θ ρ R) : (b = true ∧ x.holds Θ ρ R) ∨ (b = false ∧ y.holds Θ ρ R) := by
  cases b with
  | false => exact .inr ⟨rfl, h⟩
  | true => exact .inl ⟨rfl, h⟩
theorem withF_self (st : St) : st.withF st.facts = st := by
  obtain ⟨n, nc, h, l, o, s, f, nz, na, no, lv⟩ := st; rfl
theorem assume_eq (c : T) (st : St) (k : St → VC) : assume c st k = k (st.withF (addF c st.facts)) := by
  unfold assume; rw [forceF_eq]
theorem brK_inv {c : T} {st : St} {x y : St → VC} {r : Bool} (h : (brK c st x y).holds Θ ρ R) (hf : FOK ρ st.facts) (hc : c.ev ρ = some (.b r)) :
    ∃ f, FOK ρ f ∧ ((r = true ∧ (x (st.withF f)).holds Θ ρ R) ∨ (r = false ∧ (y (st.withF f)).holds Θ ρ R)) := by
  unfold brK at h
  cases e : dec st.facts c with
  | none =>
    rw [e] at h
    have h : (c.ev ρ = some (.b true) → (assume c st x).holds Θ ρ R) ∧ (c.ev ρ = some (.b false) → (assume (mkNot c) st y).holds Θ ρ R) := h
    rw [assume_eq, assume_eq] at h
    cases r with
    | true => exact ⟨_, addF_ok hc hf, .inl ⟨rfl, h.1 hc⟩⟩
    | false => exact ⟨_, addF_ok (mkNot_ev hc) hf, .inr ⟨rfl, h.2 hc⟩⟩
  | some b =>
    rw [e] at h
    have hr := dec_sound hf e hc
    subst hr
    refine ⟨st.facts, hf, ?_⟩
    rw [withF_self]
    cases r with
    | true => exact .inl ⟨rfl, h⟩
    | false => exact .inr ⟨rfl, h⟩
theorem needK_inv {c : T} {st : St} {k : St → VC} {r : Bool} (h : (needK c st k).holds Θ ρ R) (hf : FOK ρ st.facts) (hc : c.ev ρ = some (.b r)) :
    r = true ∧ ∃ f, FOK ρ f ∧ (k (st.withF f)).holds Θ ρ R := by
  unfold needK at h
  cases e : dec st.facts c with
  | none =>
    rw [e] at h
    have h : c.ev ρ = some (.b true) ∧ (assume c st k).holds Θ ρ R := h
    rw [assume_eq] at h
    have h1 := h.1
    rw [hc] at h1
    cases h1
    exact ⟨rfl, _, addF_ok hc hf, h.2⟩
  | some b =>
    rw [e] at h
    have hr := dec_sound hf e hc
    subst hr
    cases r with
    | true => exact ⟨rfl, st.facts, hf, by rw [withF_self]; exact h⟩
    | false => exact h.elim
end
end Go.Sy
/-! What abstract values and memory stand for. -/
namespace Go.Sy

/-- A block that is not yet there has no place. -/
structure Env where
  m : List (Option (Nat × Nat))
  caps : List Nat
  z : List Int
  a : List (List Value)
  o : List Value
def Env.va (E : Env) : Va := ⟨E.z, E.a⟩

structure Env.Le (E E' : Env) : Prop where
  m : ∀ (k : Nat) (p : Nat × Nat), E.m[k]? = some (some p) → E'.m[k]? = some (some p)
  caps : ∀ (k c : Nat), E.caps[k]? = some c → E'.caps[k]? = some c
  va : E.va.Le E'.va
  o : ∀ (k : Nat) (v : Value), E.o[k]? = some v → E'.o[k]? = some v
  h : ∀ (k : Nat), E.m[k]? = some none → ∃ q, E'.m[k]? = some q ∧ ∀ p, q = some p → p.2 = 0
theorem Env.Le.refl (E : Env) : E.Le E := ⟨fun _ _ h => h, fun _ _ h => h, .refl _, fun _ _ h => h, fun _ h => ⟨none, h, fun _ e => by cases e⟩⟩
theorem Env.Le.trans {a b c : Env} (h : a.Le b) (h' : b.Le c) : a.Le c :=
  ⟨fun k p e => h'.m k p (h.m k p e), fun k p e => h'.caps k p (h.caps k p e), h.va.trans h'.va, fun k p e => h'.o k p (h.o k p e), fun k e => by
    obtain ⟨q, h1, h2⟩ := h.h k e
    cases q with
    | none => exact h'.h k h1
    | some p => exact ⟨some p, h'.m k p h1, h2⟩⟩

def aden (E : Env) (a : AAddr) : Option Addr :=
  match a.b with
  | .g g => some ⟨g, a.off, none⟩
  | .r k => match E.m[k]? with
    | some (some p) => some ⟨p.1, a.off + p.2, none⟩
    | _ => none
  | .a i => match E.o[i]? with
    | some (.pointer (some ⟨b, o, none⟩)) => some ⟨b, a.off + o, none⟩
    | _ => none
def cden (E : Env) : Cap → Option Nat
  | .k n => some n
  | .u i sub => match E.caps[i]? with
    | some c => if sub ≤ c then some (c - sub) else none
    | none => none
  | .t _ => none
/-- What a place of the unknown may hold. -/
def plain (v : Value) : Bool :=
  match v with
  | .agg _ | .tuple _ | .bool _ => false
  | _ => true
def bytesOf (s : List Nat) : ByteArray := ⟨(s.map UInt8.ofNat).toArray⟩

section
variable (E : Env)
mutual
noncomputable def AV.den : AV → Option Value
  | .bool b => some (.bool b)
  | .int k u => if u < modOf k then some (.int k (sgn k u)) else none
  | .sym k t => match t.ev E.va with
    | some (.i n) => if (Lit.int k n).wf then some (.int k n) else none
    | _ => none
  | .cnd t => match t.ev E.va with
    | some (.b b) => some (.bool b)
    | _ => none
  | .str n s => if n = s.length ∧ ∀ c ∈ s, c < 256 then some (.string (bytesOf s)) else none
  | .dead i => E.o[i]?
  | .ptr none => some (.pointer none)
  | .ptr (some a) => (aden E a).map fun x => .pointer (some x)
  | .sptr (.r k) t => match E.m[k]?, t.ev E.va with
    | some (some p), some (.i n) => if 0 ≤ n then some (.pointer (some ⟨p.1, n.toNat + p.2, none⟩)) else none
    | _, _ => none
  | .sptr _ _ => none
  | .slice none n (.k c) => if n = 0 ∧ c = 0 then some (.slice none 0 0) else none
  | .slice none _ (.u _ _) => none
  | .slice none _ (.t _) => none
  | .slice (some a) n c => match aden E a, cden E c with
    | some x, some c => if n ≤ c then some (.slice (some x) n c) else none
    | _, _ => none
  | .ssl _ _ _ _ => none
  | .sl0 a i n d => match aden E a, E.caps[i]? with
    | some x, some c => if n ≤ c then some (.slice (some (if c = n then x else x.add d)) 0 (c - n)) else none
    | _, _ => none
  | .func fn a b => match denL a, denL b with
    | some x, some y => some (.func fn x.toArray y.toArray)
    | _, _ => none
  | .yld l => match E.m[l]? with
    | some (some (id, 0)) => some (.func (.yield id) #[] #[])
    | _ => none
  | .nilFunc => some .nilFunc
  | .iface t v => (AV.den v).map (.iface t)
  | .nilIface => some .nilIface
  | .map none => some (.map none)
  | .map (some k) => match E.m[k]? with
    | some (some (id, 0)) => some (.map (some id))
    | _ => none
  | .agg l => (denL l).map fun x => .agg x.toArray
  | .tuple l => (denL l).map fun x => .tuple x.toArray
  | .opq i => match E.o[i]? with
    | some v => if plain v then some v else none
    | none => none
noncomputable def denL : List AV → Option (List Value)
  | [] => some []
  | v :: r => match AV.den v, denL r with
    | some x, some y => some (x :: y)
    | _, _ => none
end
end

section
variable {E E' : Env}
theorem aden_mono (h : E.Le E') {a : AAddr} {x : Addr} (hx : aden E a = some x) : aden E' a = some x := by
  unfold aden at *
  cases hb : a.b with
  | g n => simpa [hb] using hx
  | r k =>
    simp only [hb] at hx ⊢
    split at hx
    · rename_i p hp; rw [h.m _ _ hp]; exact hx
    · cases hx
  | a i =>
    simp only [hb] at hx ⊢
    split at hx
    · rename_i p hp; rw [h.o _ _ ‹_›]; exact hx
    · cases hx
theorem cden_mono (h : E.Le E') {c : Cap} {n : Nat} (hx : cden E c = some n) : cden E' c = some n := by
  cases c with
  | k n => exact hx
  | t _ => cases hx
  | u i sub =>
    simp only [cden] at hx ⊢
    cases hk : E.caps[i]? with
    | none => simp [hk] at hx
    | some p => rw [h.caps _ _ hk]; simpa [hk] using hx
mutual
theorem den_mono (h : E.Le E') : ∀ (v : AV) {x : Value}, v.den E = some x → v.den E' = some x
  | .bool _, _, hx | .int _ _, _, hx | .str _ _, _, hx | .ptr none, _, hx | .slice none _ (.k _), _, hx | .nilFunc, _, hx | .nilIface, _, hx | .map none, _, hx => by simpa [AV.den] using hx
  | .sptr (.g _) _, _, hx | .sptr (.a _) _, _, hx | .slice none _ (.u _ _), _, hx | .slice none _ (.t _), _, hx | .ssl _ _ _ _, _, hx => by simp [AV.den] at hx
  | .sptr (.r k) t, x, hx => by
    simp only [AV.den] at hx ⊢
    split at hx
    · rename_i p n hp hn; rw [h.m _ _ hp, ev_mono h.va hn]; exact hx
    · cases hx
  | .sym k t, x, hx => by
    simp only [AV.den] at hx ⊢
    cases ht : t.ev E.va with
    | none => simp [ht] at hx
    | some d => rw [ev_mono h.va ht]; simpa [ht] using hx
  | .cnd t, x, hx => by
    simp only [AV.den] at hx ⊢
    cases ht : t.ev E.va with
    | none => simp [ht] at hx
    | some d => rw [ev_mono h.va ht]; simpa [ht] using hx
  | .ptr (some a), x, hx => by
    simp only [AV.den, Option.map_eq_some_iff] at hx ⊢
    obtain ⟨y, hy, rfl⟩ := hx
    exact ⟨y, aden_mono h hy, rfl⟩
  | .slice (some a) n c, x, hx => by
    simp only [AV.den] at hx ⊢
    cases ha : aden E a with
    | none => simp [ha] at hx
    | some y =>
      cases hc : cden E c with
      | none => simp [ha, hc] at hx
      | some z => rw [aden_mono h ha, cden_mono h hc]; simpa [ha, hc] using hx
  | .sl0 a i n d, x, hx => by
    simp only [AV.den] at hx ⊢
    cases ha : aden E a with
    | none => simp [ha] at hx
    | some y =>
      cases hc : E.caps[i]? with
      | none => simp [ha, hc] at hx
      | some z => rw [aden_mono h ha, h.caps _ _ hc]; simpa [ha, hc] using hx
  | .func fn a b, x, hx => by
    simp only [AV.den] at hx ⊢
    cases ha : denL E a with
    | none => simp [ha] at hx
    | some y =>
      cases hc : denL E b with
      | none => simp [ha, hc] at hx
      | some z => rw [denL_mono h a ha, denL_mono h b hc]; simpa [ha, hc] using hx
  | .yld l, x, hx => by
    simp only [AV.den] at hx ⊢
    split at hx
    · rename_i id hid; rw [h.m _ _ hid]; exact hx
    · cases hx
  | .iface t v, x, hx => by
    simp only [AV.den, Option.map_eq_some_iff] at hx ⊢
    obtain ⟨y, hy, rfl⟩ := hx
    exact ⟨y, den_mono h v hy, rfl⟩
  | .map (some k), x, hx => by
    simp only [AV.den] at hx ⊢
    split at hx
    · rename_i id hid; rw [h.m _ _ hid]; exact hx
    · cases hx
  | .agg l, x, hx => by
    simp only [AV.den, Option.map_eq_some_iff] at hx ⊢
    obtain ⟨y, hy, rfl⟩ := hx
    exact ⟨y, denL_mono h l hy, rfl⟩
  | .tuple l, x, hx => by
    simp only [AV.den, Option.map_eq_some_iff] at hx ⊢
    obtain ⟨y, hy, rfl⟩ := hx
    exact ⟨y, denL_mono h l hy, rfl⟩
  | .opq i, x, hx => by
    simp only [AV.den] at hx ⊢
    cases ho : E.o[i]? with
    | none => simp [ho] at hx
    | some v => rw [h.o _ _ ho]; simpa [ho] using hx
  | .dead i, x, hx => by
    simp only [AV.den] at hx ⊢
    exact h.o _ _ hx
theorem denL_mono (h : E.Le E') : ∀ (l : List AV) {x : List Value}, denL E l = some x → denL E' l = some x
  | [], _, hx => by simpa [denL] using hx
  | v :: r, x, hx => by
    simp only [denL] at hx ⊢
    cases ha : v.den E with
    | none => simp [ha] at hx
    | some y =>
      cases hc : denL E r with
      | none => simp [ha, hc] at hx
      | some z => rw [den_mono h v ha, denL_mono h r hc]; simpa [ha, hc] using hx
end
theorem denL_cons {v : AV} {r : List AV} {x : List Value} : denL E (v :: r) = some x ↔ ∃ a b, v.den E = some a ∧ denL E r = some b ∧ x = a :: b := by
  simp only [denL]
  cases v.den E <;> cases denL E r <;> simp [eq_comm]
theorem denL_nil {x : List Value} : denL E [] = some x ↔ x = [] := by simp [denL, eq_comm]
theorem denL_length : ∀ {l : List AV} {x : List Value}, denL E l = some x → x.length = l.length
  | [], x, h => by rw [denL_nil.1 h]; rfl
  | v :: r, x, h => by obtain ⟨a, b, _, hb, rfl⟩ := denL_cons.1 h; simp [denL_length hb]
theorem denL_get : ∀ {l : List AV} {x : List Value}, denL E l = some x → ∀ {i : Nat} {v : AV}, l[i]? = some v → ∃ y, v.den E = some y ∧ x[i]? = some y
  | [], _, _, i, v, hv => by simp at hv
  | u :: r, x, h, i, v, hv => by
    obtain ⟨a, b, ha, hb, rfl⟩ := denL_cons.1 h
    cases i with
    | zero => simp at hv; subst hv; exact ⟨a, ha, by simp⟩
    | succ i => obtain ⟨y, h1, h2⟩ := denL_get hb (i := i) (v := v) (by simpa using hv); exact ⟨y, h1, by simpa using h2⟩
theorem denL_of : ∀ {l : List AV} {x : List Value}, x.length = l.length → (∀ (i : Nat) (v : AV), l[i]? = some v → ∃ y, v.den E = some y ∧ x[i]? = some y) → denL E l = some x
  | [], x, hl, _ => by simp at hl; subst hl; rfl
  | u :: r, [], hl, _ => by simp at hl
  | u :: r, y :: x, hl, h => by
    obtain ⟨z, h1, h2⟩ := h 0 u (by simp)
    simp at h2; subst h2
    exact denL_cons.2 ⟨_, _, h1, denL_of (by simpa using hl) (fun i v hv => by obtain ⟨z, a, b⟩ := h (i + 1) v (by simpa using hv); exact ⟨z, a, by simpa using b⟩), rfl⟩
theorem denL_append {l r : List AV} {x y : List Value} (h : denL E l = some x) (h' : denL E r = some y) : denL E (l ++ r) = some (x ++ y) := by
  induction l generalizing x with
  | nil => rw [denL_nil.1 h]; simpa using h'
  | cons u l ih => obtain ⟨a, b, ha, hb, rfl⟩ := denL_cons.1 h; exact denL_cons.2 ⟨a, b ++ y, ha, ih hb, rfl⟩
theorem denL_take {l : List AV} {x : List Value} (n : Nat) (h : denL E l = some x) : denL E (l.take n) = some (x.take n) := by
  induction l generalizing x n with
  | nil => rw [denL_nil.1 h]; simp [denL]
  | cons u l ih =>
    obtain ⟨a, b, ha, hb, rfl⟩ := denL_cons.1 h
    cases n with
    | zero => simp [denL]
    | succ n => exact denL_cons.2 ⟨a, _, ha, ih n hb, rfl⟩
theorem denL_drop {l : List AV} {x : List Value} (n : Nat) (h : denL E l = some x) : denL E (l.drop n) = some (x.drop n) := by
  induction l generalizing x n with
  | nil => rw [denL_nil.1 h]; simp [denL]
  | cons u l ih =>
    obtain ⟨a, b, ha, hb, rfl⟩ := denL_cons.1 h
    cases n with
    | zero => simpa using denL_cons.2 ⟨a, _, ha, hb, rfl⟩
    | succ n => simpa using ih n hb
theorem denL_set {l : List AV} {x : List Value} (i : Nat) {v : AV} {y : Value} (h : denL E l = some x) (hv : v.den E = some y) : denL E (l.set i v) = some (x.set i y) := by
  induction l generalizing x i with
  | nil => rw [denL_nil.1 h]; simp [denL]
  | cons u l ih =>
    obtain ⟨a, b, ha, hb, rfl⟩ := denL_cons.1 h
    cases i with
    | zero => exact denL_cons.2 ⟨_, _, hv, hb, rfl⟩
    | succ i => exact denL_cons.2 ⟨_, _, ha, ih i hb, rfl⟩
theorem denL_rep {l : List AV} {x : List Value} (h : denL E l = some x) : ∀ n, denL E (repL n l) = some (List.replicate n x).flatten
  | 0 => by simp [repL, denL]
  | n + 1 => by simp only [repL, List.replicate_succ, List.flatten_cons]; exact denL_append h (denL_rep h n)

theorem den_int {k : IntKind} {u : Nat} {x : Value} (h : (AV.int k u).den E = some x) : u < modOf k ∧ x = .int k (sgn k u) := by
  simp only [AV.den] at h
  split at h
  · rename_i c; cases h; exact ⟨c, rfl⟩
  · cases h
theorem den_int_of {k : IntKind} {u : Nat} (h : u < modOf k) : (AV.int k u).den E = some (.int k (sgn k u)) := by simp [AV.den, h]
theorem den_i64 {n : Nat} (h : n < 9223372036854775808) : (AV.int .i64 n).den E = some (.int .i64 (n : Int)) := by
  rw [den_int_of (by simp only [modOf]; omega), sgn_nat .i64 (by simp only [halfOf]; omega)]
theorem den_sym {k : IntKind} {t : T} {x : Value} (h : (AV.sym k t).den E = some x) : ∃ n, t.ev E.va = some (.i n) ∧ (Lit.int k n).wf = true ∧ x = .int k n := by
  simp only [AV.den] at h
  split at h
  · rename_i n hn
    split at h
    · rename_i c; cases h; exact ⟨n, hn, c, rfl⟩
    · cases h
  · cases h
theorem den_sym_of {k : IntKind} {t : T} {n : Int} (h : t.ev E.va = some (.i n)) (hw : (Lit.int k n).wf = true) : (AV.sym k t).den E = some (.int k n) := by simp [AV.den, h, hw]
theorem den_cnd {t : T} {x : Value} (h : (AV.cnd t).den E = some x) : ∃ b, t.ev E.va = some (.b b) ∧ x = .bool b := by
  simp only [AV.den] at h
  split at h
  · rename_i n hn; cases h; exact ⟨n, hn, rfl⟩
  · cases h
theorem den_cnd_of {t : T} {b : Bool} (h : t.ev E.va = some (.b b)) : (AV.cnd t).den E = some (.bool b) := by simp [AV.den, h]
theorem den_str {n : Nat} {s : List Nat} {x : Value} (h : (AV.str n s).den E = some x) : n = s.length ∧ (∀ c ∈ s, c < 256) ∧ x = .string (bytesOf s) := by
  simp only [AV.den] at h
  split at h
  · rename_i c; cases h; exact ⟨c.1, c.2, rfl⟩
  · cases h
theorem den_str_of {n : Nat} {s : List Nat} (h : n = s.length) (h' : ∀ c ∈ s, c < 256) : (AV.str n s).den E = some (.string (bytesOf s)) := by simp only [AV.den]; rw [if_pos ⟨h, h'⟩]
theorem den_agg {l : List AV} {x : Value} (h : (AV.agg l).den E = some x) : ∃ xs, denL E l = some xs ∧ x = .agg xs.toArray := by
  simp only [AV.den, Option.map_eq_some_iff] at h
  obtain ⟨xs, h1, h2⟩ := h
  exact ⟨xs, h1, h2.symm⟩
theorem den_agg_of {l : List AV} {xs : List Value} (h : denL E l = some xs) : (AV.agg l).den E = some (.agg xs.toArray) := by simp [AV.den, h]
theorem den_tuple_of {l : List AV} {xs : List Value} (h : denL E l = some xs) : (AV.tuple l).den E = some (.tuple xs.toArray) := by simp [AV.den, h]
theorem den_undef : (AV.tuple []).den E = some undef := rfl
theorem den_ptr {x : AAddr} {y : Value} (h : (AV.ptr (some x)).den E = some y) : ∃ ad, aden E x = some ad ∧ y = .pointer (some ad) := by
  simp only [AV.den, Option.map_eq_some_iff] at h
  obtain ⟨ad, h1, h2⟩ := h
  exact ⟨ad, h1, h2.symm⟩
theorem den_ptr_of {x : AAddr} {ad : Addr} (h : aden E x = some ad) : (AV.ptr (some x)).den E = some (.pointer (some ad)) := by simp [AV.den, h]
theorem aden_r {k off : Nat} {ad : Addr} (h : aden E ⟨.r k, off⟩ = some ad) : ∃ p, E.m[k]? = some (some p) ∧ ad = ⟨p.1, off + p.2, none⟩ := by
  simp only [aden] at h
  split at h
  · rename_i p hp; cases h; exact ⟨p, hp, rfl⟩
  · cases h
theorem aden_r_of {k off : Nat} {p : Nat × Nat} (h : E.m[k]? = some (some p)) : aden E ⟨.r k, off⟩ = some ⟨p.1, off + p.2, none⟩ := by simp [aden, h]

theorem toU8 {n : Nat} (h : n < 256) : (UInt8.ofNat n).toNat = n := by
  rw [UInt8.toNat_ofNat']; omega
theorem bytesOf_size (s : List Nat) : (bytesOf s).size = s.length := by
  show (s.map UInt8.ofNat).toArray.size = s.length
  rw [List.size_toArray, List.length_map]
theorem den_ofCell {v : Value} {a : AV} (h : ofCell v = some a) : a.den E = some v := by
  unfold ofCell at h
  split at h
  · cases h; rfl
  · rename_i k n
    obtain ⟨h1, h2⟩ := bif_some h
    cases h2
    rw [ieq_eq, decide_eq_true_eq] at h1
    rw [den_int_of (toU_lt _ (modOf_pos k) _), h1]
  · rename_i s
    cases h
    have hlen : s.size = (s.data.toList.map UInt8.toNat).length := by
      rw [List.length_map, Array.length_toList]; rfl
    rw [den_str_of hlen (fun c hc => by
      obtain ⟨b, _, rfl⟩ := List.mem_map.1 hc
      exact b.toNat_lt)]
    congr 2
    unfold bytesOf
    rw [List.map_map]
    have : (UInt8.ofNat ∘ UInt8.toNat) = id := by funext b; simp
    rw [this, List.map_id]
  · cases h; rfl
  · cases h; rfl
  · cases h; rfl
  · cases h; rfl
  · cases h; rfl
  · cases h
theorem denL_ofCells : ∀ {l : List Value} {a : List AV}, ofCells l = some a → denL E a = some l
  | [], a, h => by cases h; rfl
  | v :: r, a, h => by
    obtain ⟨x, hx, h⟩ := obind_inv h
    obtain ⟨y, hy, h⟩ := obind_inv h
    cases h
    exact denL_cons.2 ⟨_, _, den_ofCell hx, denL_ofCells hy, rfl⟩
theorem den_ofVal {v : Value} {a : AV} (h : ofVal v = some a) : a.den E = some v := by
  unfold ofVal at h
  split at h
  · obtain ⟨l, hl, h⟩ := obind_inv h
    cases h
    simp [AV.den, denL_ofCells hl]
  · exact den_ofCell h

/-- No bool is without a name. -/
theorem den_bool {v : AV} {b : Bool} (h : v.den E = some (.bool b)) : v = .bool b ∨ (∃ t, v = .cnd t ∧ t.ev E.va = some (.b b)) ∨ ∃ i, v = .dead i := by
  cases v with
  | bool c => simp only [AV.den, Option.some.injEq, Value.bool.injEq] at h; rw [h]; exact .inl rfl
  | cnd t => obtain ⟨c, h1, h2⟩ := den_cnd h; cases h2; exact .inr (.inl ⟨t, rfl, h1⟩)
  | int k u => have := (den_int h).2; cases this
  | sym k t => obtain ⟨n, _, _, h⟩ := den_sym h; cases h
  | str n s => have := (den_str h).2.2; cases this
  | ptr a => cases a <;> simp only [AV.den, Option.some.injEq, Option.map_eq_some_iff] at h <;> first | cases h; done | (obtain ⟨_, _, h⟩ := h; cases h)
  | slice a n c =>
    cases a with
    | none => cases c <;> simp only [AV.den] at h <;> (try (cases h; done)) <;> split at h <;> cases h
    | some a => simp only [AV.den] at h; split at h <;> (try (cases h; done)) <;> split at h <;> cases h
  | sl0 a i n d => simp only [AV.den] at h; split at h <;> (try (cases h; done)) <;> split at h <;> cases h
  | func f a c => simp only [AV.den] at h; split at h <;> cases h
  | yld l => simp only [AV.den] at h; split at h <;> cases h
  | iface t v => simp only [AV.den, Option.map_eq_some_iff] at h; obtain ⟨_, _, h⟩ := h; cases h
  | map r => cases r <;> simp only [AV.den] at h <;> (try (cases h; done)) <;> split at h <;> cases h
  | agg l => simp only [AV.den, Option.map_eq_some_iff] at h; obtain ⟨_, _, h⟩ := h; cases h
  | tuple l => simp only [AV.den, Option.map_eq_some_iff] at h; obtain ⟨_, _, h⟩ := h; cases h
  | opq i =>
    simp only [AV.den] at h
    split at h
    · split at h
      · rename_i hp; cases h; cases hp
      · cases h
    · cases h
  | dead i => exact .inr (.inr ⟨i, rfl⟩)
  | sptr b t =>
    cases b with
    | r k => simp only [AV.den] at h; split at h <;> (try (cases h; done)) <;> split at h <;> cases h
    | _ => simp [AV.den] at h
  | ssl _ _ _ _ => simp [AV.den] at h
  | nilFunc => simp [AV.den] at h
  | nilIface => simp [AV.den] at h
/-- What stands in one cell. -/
theorem den_one {v : AV} {x : Value} (h : one1 v = true) (hx : v.den E = some x) : x.oneCell' = true := by
  cases v with
  | agg l => cases h
  | tuple l => cases h
  | bool c => simp only [AV.den, Option.some.injEq] at hx; subst hx; rfl
  | cnd t => obtain ⟨c, _, rfl⟩ := den_cnd hx; rfl
  | int k u => rw [(den_int hx).2]; rfl
  | sym k t => obtain ⟨n, _, _, rfl⟩ := den_sym hx; rfl
  | str n s => rw [(den_str hx).2.2]; rfl
  | ptr a => cases a <;> simp only [AV.den, Option.some.injEq, Option.map_eq_some_iff] at hx <;> first | (subst hx; rfl) | (obtain ⟨_, _, rfl⟩ := hx; rfl)
  | slice a n c =>
    cases a with
    | none =>
      cases c <;> simp only [AV.den] at hx
      · split at hx <;> cases hx; rfl
      · cases hx
      · cases hx
    | some a =>
      simp only [AV.den] at hx
      split at hx
      · split at hx <;> cases hx; rfl
      · cases hx
  | sl0 a i n d => simp only [AV.den] at hx; split at hx <;> (try (cases hx; done)) <;> split at hx <;> cases hx; rfl
  | func f a c => simp only [AV.den] at hx; split at hx <;> cases hx; rfl
  | yld l => simp only [AV.den] at hx; split at hx <;> cases hx; rfl
  | iface t v => simp only [AV.den, Option.map_eq_some_iff] at hx; obtain ⟨_, _, rfl⟩ := hx; rfl
  | map r =>
    cases r <;> simp only [AV.den] at hx
    · cases hx; rfl
    · split at hx <;> cases hx; rfl
  | opq i =>
    simp only [AV.den] at hx
    split at hx
    · split at hx
      · rename_i hp
        cases hx
        cases x <;> first | rfl | cases hp
      · cases hx
    · cases hx
  | dead i => cases h
  | sptr b t =>
    cases b with
    | r k => simp only [AV.den] at hx; split at hx <;> (try (cases hx; done)) <;> split at hx <;> cases hx; rfl
    | _ => simp [AV.den] at hx
  | ssl _ _ _ _ => simp [AV.den] at hx
  | nilFunc => simp only [AV.den, Option.some.injEq] at hx; subst hx; rfl
  | nilIface => simp only [AV.den, Option.some.injEq] at hx; subst hx; rfl
end

/-! ### What will stand for something once all blocks are there -/
def Env.fill (E : Env) : Env := { E with m := E.m.map fun o => some (o.getD (0, 0)) }
theorem fill_get (E : Env) (k : Nat) : E.fill.m[k]? = (E.m[k]?).map fun o => some (o.getD (0, 0)) := by simp [Env.fill]
theorem Env.le_fill (E : Env) : E.Le E.fill :=
  ⟨fun k p h => by rw [fill_get, h]; rfl, fun _ _ h => h, .refl _, fun _ _ h => h, fun k h => ⟨some (0, 0), by rw [fill_get, h]; rfl, fun p e => by cases e; rfl⟩⟩
def okv (E : Env) (v : AV) : Prop := ∃ x, v.den E.fill = some x
theorem okv_of {E : Env} {v : AV} {x : Value} (h : v.den E = some x) : okv E v := ⟨x, den_mono E.le_fill v h⟩
section
variable {E E' : Env}
theorem fill_aden (h : E.Le E') {a : AAddr} {x : Addr} (hx : aden E.fill a = some x) : ∃ y, aden E'.fill a = some y := by
  unfold aden at *
  cases hb : a.b with
  | g n => exact ⟨_, rfl⟩
  | r k =>
    simp only [hb, fill_get] at hx ⊢
    cases hk : E.m[k]? with
    | none => simp [hk] at hx
    | some q =>
      cases q with
      | none => obtain ⟨q, h1, _⟩ := h.h k hk; rw [h1]; exact ⟨_, rfl⟩
      | some p => rw [h.m k p hk]; exact ⟨_, rfl⟩
  | a i =>
    have e : E.fill.o = E.o := rfl
    have e' : E'.fill.o = E'.o := rfl
    simp only [hb, e] at hx
    simp only [e']
    split at hx
    · rename_i ho; rw [h.o _ _ ho]; exact ⟨_, rfl⟩
    · cases hx
theorem fill_zero (h : E.Le E') {k id : Nat} (hk : E.fill.m[k]? = some (some (id, 0))) : ∃ id', E'.fill.m[k]? = some (some (id', 0)) := by
  rw [fill_get] at *
  cases hq : E.m[k]? with
  | none => simp [hq] at hk
  | some q =>
    cases q with
    | none =>
      obtain ⟨q, h1, h2⟩ := h.h k hq
      rw [h1]
      cases q with
      | none => exact ⟨0, rfl⟩
      | some p => have := h2 p rfl; obtain ⟨a, b⟩ := p; simp only at this; subst this; exact ⟨a, rfl⟩
    | some p =>
      rw [hq] at hk
      simp at hk
      rw [h.m k p hq]; subst hk; exact ⟨id, rfl⟩
mutual
theorem fill_mono (h : E.Le E') : ∀ (v : AV) {x : Value}, v.den E.fill = some x → ∃ y, v.den E'.fill = some y
  | .bool _, _, hx | .int _ _, _, hx | .str _ _, _, hx | .ptr none, _, hx | .slice none _ (.k _), _, hx | .nilFunc, _, hx | .nilIface, _, hx | .map none, _, hx => ⟨_, by simpa [AV.den] using hx⟩
  | .sptr (.g _) _, _, hx | .sptr (.a _) _, _, hx | .slice none _ (.u _ _), _, hx | .slice none _ (.t _), _, hx | .ssl _ _ _ _, _, hx => by simp [AV.den] at hx
  | .sptr (.r k) t, x, hx => by
    simp only [AV.den] at hx ⊢
    have e : E.fill.va = E.va := rfl
    have e' : E'.fill.va = E'.va := rfl
    rw [e] at hx
    rw [e']
    split at hx
    · rename_i p n hp hn
      rw [ev_mono h.va hn]
      split at hx
      · rename_i h0
        rw [fill_get] at hp ⊢
        cases hk : E.m[k]? with
        | none => simp [hk] at hp
        | some q =>
          cases q with
          | none => obtain ⟨q, h1, _⟩ := h.h k hk; rw [h1]; exact ⟨_, by simp [h0]; rfl⟩
          | some p => rw [h.m k p hk]; exact ⟨_, by simp [h0]; rfl⟩
      · cases hx
    · cases hx
  | .sym k t, x, hx => by
    simp only [AV.den] at hx ⊢
    have e : E.fill.va = E.va := rfl
    have e' : E'.fill.va = E'.va := rfl
    rw [e] at hx
    rw [e']
    cases ht : t.ev E.va with
    | none => simp [ht] at hx
    | some d => rw [ev_mono h.va ht]; exact ⟨x, by simpa [ht] using hx⟩
  | .cnd t, x, hx => by
    simp only [AV.den] at hx ⊢
    have e : E.fill.va = E.va := rfl
    have e' : E'.fill.va = E'.va := rfl
    rw [e] at hx
    rw [e']
    cases ht : t.ev E.va with
    | none => simp [ht] at hx
    | some d => rw [ev_mono h.va ht]; exact ⟨x, by simpa [ht] using hx⟩
  | .ptr (some a), x, hx => by
    simp only [AV.den, Option.map_eq_some_iff] at hx ⊢
    obtain ⟨y, hy, rfl⟩ := hx
    obtain ⟨z, hz⟩ := fill_aden h hy
    exact ⟨_, z, hz, rfl⟩
  | .slice (some a) n c, x, hx => by
    simp only [AV.den] at hx ⊢
    cases ha : aden E.fill a with
    | none => simp [ha] at hx
    | some y =>
      obtain ⟨z, hz⟩ := fill_aden h ha
      cases hc : cden E c with
      | none => have : cden E.fill c = none := hc; simp [ha, this] at hx
      | some m =>
        have e : cden E.fill c = some m := hc
        have e' : cden E'.fill c = some m := cden_mono h hc
        rw [ha, e] at hx
        rw [hz, e']
        simp only at hx ⊢
        split at hx
        · rename_i hn; rw [if_pos hn]; exact ⟨_, rfl⟩
        · cases hx
  | .sl0 a i n d, x, hx => by
    simp only [AV.den] at hx ⊢
    cases ha : aden E.fill a with
    | none => simp [ha] at hx
    | some y =>
      obtain ⟨z, hz⟩ := fill_aden h ha
      cases hc : E.caps[i]? with
      | none => have : E.fill.caps[i]? = none := hc; simp [ha, this] at hx
      | some m =>
        have e : E.fill.caps[i]? = some m := hc
        have e' : E'.fill.caps[i]? = some m := h.caps _ _ hc
        rw [ha, e] at hx
        rw [hz, e']
        simp only at hx ⊢
        split at hx
        · rename_i hn; rw [if_pos hn]; exact ⟨_, rfl⟩
        · cases hx
  | .func fn a b, x, hx => by
    simp only [AV.den] at hx ⊢
    cases ha : denL E.fill a with
    | none => simp [ha] at hx
    | some y =>
      cases hc : denL E.fill b with
      | none => simp [ha, hc] at hx
      | some z =>
        obtain ⟨u, hu⟩ := fillL_mono h a ha
        obtain ⟨v, hv⟩ := fillL_mono h b hc
        rw [hu, hv]; exact ⟨_, rfl⟩
  | .yld l, x, hx => by
    simp only [AV.den] at hx ⊢
    split at hx
    · rename_i id hid; obtain ⟨id', h'⟩ := fill_zero h hid; rw [h']; exact ⟨_, rfl⟩
    · cases hx
  | .iface t v, x, hx => by
    simp only [AV.den, Option.map_eq_some_iff] at hx ⊢
    obtain ⟨y, hy, rfl⟩ := hx
    obtain ⟨z, hz⟩ := fill_mono h v hy
    exact ⟨_, z, hz, rfl⟩
  | .map (some k), x, hx => by
    simp only [AV.den] at hx ⊢
    split at hx
    · rename_i id hid; obtain ⟨id', h'⟩ := fill_zero h hid; rw [h']; exact ⟨_, rfl⟩
    · cases hx
  | .agg l, x, hx => by
    simp only [AV.den, Option.map_eq_some_iff] at hx ⊢
    obtain ⟨y, hy, rfl⟩ := hx
    obtain ⟨z, hz⟩ := fillL_mono h l hy
    exact ⟨_, z, hz, rfl⟩
  | .tuple l, x, hx => by
    simp only [AV.den, Option.map_eq_some_iff] at hx ⊢
    obtain ⟨y, hy, rfl⟩ := hx
    obtain ⟨z, hz⟩ := fillL_mono h l hy
    exact ⟨_, z, hz, rfl⟩
  | .opq i, x, hx => by
    simp only [AV.den] at hx ⊢
    cases ho : E.o[i]? with
    | none => have : E.fill.o[i]? = none := ho; simp [this] at hx
    | some v =>
      have e : E.fill.o[i]? = some v := ho
      have e' : E'.fill.o[i]? = some v := h.o _ _ ho
      rw [e] at hx
      rw [e']; exact ⟨x, hx⟩
  | .dead i, x, hx => by
    simp only [AV.den] at hx ⊢
    have e : E.o[i]? = some x := hx
    exact ⟨x, h.o _ _ e⟩
theorem fillL_mono (h : E.Le E') : ∀ (l : List AV) {x : List Value}, denL E.fill l = some x → ∃ y, denL E'.fill l = some y
  | [], _, hx => ⟨[], rfl⟩
  | v :: r, x, hx => by
    simp only [denL] at hx ⊢
    cases ha : v.den E.fill with
    | none => simp [ha] at hx
    | some y =>
      cases hc : denL E.fill r with
      | none => simp [ha, hc] at hx
      | some z =>
        obtain ⟨u, hu⟩ := fill_mono h v ha
        obtain ⟨w, hw⟩ := fillL_mono h r hc
        rw [hu, hw]; exact ⟨_, rfl⟩
end
theorem okv.mono (h : E.Le E') {v : AV} (hv : okv E v) : okv E' v := let ⟨_, hx⟩ := hv; fill_mono h v hx
end

/-! ### Blocks that are kept -/
structure Kept (K : Nat → Prop) (w w' : World) : Prop where
  os : w'.os = w.os
  tape : w'.tape = w.tape
  output : w'.output = w.output
  size : w.heap.size ≤ w'.heap.size
  block : ∀ k, K k → w'.heap[k]? = w.heap[k]?
theorem Kept.refl (K : Nat → Prop) (w : World) : Kept K w w := ⟨rfl, rfl, rfl, Nat.le_refl _, fun _ _ => rfl⟩
theorem Kept.trans {K : Nat → Prop} {a b c : World} (h : Kept K a b) (k : Kept K b c) : Kept K a c :=
  ⟨k.os.trans h.os, k.tape.trans h.tape, k.output.trans h.output, Nat.le_trans h.size k.size, fun i hi => (k.block i hi).trans (h.block i hi)⟩
theorem Kept.mono {K K' : Nat → Prop} {w w' : World} (h : Kept K w w') (hK : ∀ k, K' k → K k) : Kept K' w w' := ⟨h.os, h.tape, h.output, h.size, fun k hk => h.block k (hK k hk)⟩
theorem Kept.below {B : Nat} {w w' : World} (h : Kept (· < B) w w') : Go.RowKit.Below B w w' := ⟨h.os, h.tape, h.output, h.size, h.block⟩
theorem Kept.of_below {B : Nat} {w w' : World} (h : Go.RowKit.Below B w w') : Kept (· < B) w w' := ⟨h.os, h.tape, h.output, h.size, h.block⟩

/-! ### Memory -/
structure BlkRel (E : Env) (b : Blk) (sh : Nat) (cs : Array Value) (fr : Nat × Nat) : Prop where
  free : fr.1 = fr.2 ∨ cs.size ≤ fr.1
  room : b.sz + sh ≤ cs.size
  bnd : ∀ i v, b.cells.get i = some v → i < b.sz
  cap : ∀ i, b.cv = i + 1 → ∃ c, E.caps[i]? = some c ∧ c * b.es + sh ≤ cs.size ∧ b.sz ≤ c * b.es
  cells : ∀ i v, b.cell i = some v → ∃ x, v.den E = some x ∧ cs[i + sh]? = some x
theorem BlkRel.free' {E : Env} {b : Blk} {sh : Nat} {cs : Array Value} {fr : Nat × Nat} (h : BlkRel E b sh cs fr) : ∀ j, j < cs.size → ¬ (fr.1 ≤ j ∧ j < fr.2) := by
  intro j hj ⟨h1, h2⟩
  rcases h.free with e | e <;> omega
theorem BlkRel.mono {E E' : Env} (h : E.Le E') {b : Blk} {sh : Nat} {cs : Array Value} {fr : Nat × Nat} (hb : BlkRel E b sh cs fr) : BlkRel E' b sh cs fr :=
  ⟨hb.free, hb.room, hb.bnd, fun i hi => let ⟨c, h1, h2⟩ := hb.cap i hi; ⟨c, h.caps _ _ h1, h2⟩, fun i v hv => let ⟨x, h1, h2⟩ := hb.cells i v hv; ⟨x, den_mono h _ h1, h2⟩⟩

def lstOf : LSt → LoopState
  | .ready => .ready
  | .busy => .busy
  | .done => .done
  | .over => .exhausted
/-- The frame's slots. -/
structure SlotRel (E : Env) (tm : Tm) (tmps : Array Value) : Prop where
  slots : ∀ t, ∃ x, (slot tm (pth t)).den E = some x ∧ tmps.getD t undef = x
theorem SlotRel.mono {E E' : Env} (hE : E.Le E') {tm : Tm} {tmps : Array Value} (h : SlotRel E tm tmps) : SlotRel E' tm tmps :=
  ⟨fun t => let ⟨x, h1, h2⟩ := h.slots t; ⟨x, den_mono hE _ h1, h2⟩⟩

def EntRel (E : Env) (e : AV × AV × Nat) (m : MapEntry) : Prop := e.1.den E = some m.key ∧ e.2.1.den E = some m.val ∧ e.2.2 = m.born
def EntsRel (E : Env) : List (AV × AV × Nat) → List MapEntry → Prop
  | [], [] => True
  | e :: l, m :: r => EntRel E e m ∧ EntsRel E l r
  | _, _ => False
theorem EntsRel.mono {E E' : Env} (h : E.Le E') : ∀ {l : List (AV × AV × Nat)} {r : List MapEntry}, EntsRel E l r → EntsRel E' l r
  | [], [], _ => trivial
  | _ :: _, _ :: _, ⟨⟨h1, h2, h3⟩, h4⟩ => ⟨⟨den_mono h _ h1, den_mono h _ h2, h3⟩, EntsRel.mono h h4⟩
  | [], _ :: _, h => h.elim
  | _ :: _, [], h => h.elim

/-- A program's tables. -/
structure Tabs where
  P : Program
  cx : Cx
  mixed : P.follows .mixedOrders = true
def CRel (X : Tabs) (f : FuncId) (c : BC) (code : Code) : Prop := cCode X.cx.und X.cx.size X.cx.zero f code = c
noncomputable def jumpRel : Option BC → Option Code → Prop
  | none, none => True
  | some c, some d => (c = .ret ∧ d = .ret) ∨ (∃ i, c = .exit i ∧ d = .exit i) ∨ ∃ l, c = .goto l ∧ d = .goto l
  | _, _ => False
def ObRel (X : Tabs) (E : Env) : Ob → Obj → Prop
  | .map es clock, .map ms c => clock = c ∧ EntsRel E es ms.toList
  | .strIt n s pos, .stringIter b p => n = s.length ∧ (∀ c ∈ s, c < 256) ∧ b = bytesOf s ∧ p = pos
  | .mapIt m since seen stepped, .mapIter r c l d => (match m, r with
      | none, none => True
      | some k, some id => E.m[k]? = some (some (id, 0))
      | _, _ => False) ∧ since = c ∧ l.toList = seen ∧ stepped = d
  | .loop s p f tm ps a b d, .loop L => L.state = lstOf s ∧ jumpRel p L.pending ∧ SlotRel E tm L.tmps ∧ ps = L.params.toList.map pth ∧ CRel X f a L.assign ∧ CRel X f b L.body ∧
      okCode L.tmps.size L.assign = true ∧ okCode L.tmps.size L.body = true ∧ (∀ p ∈ L.params.toList, p < L.tmps.size) ∧ E.m[d]? = some (some (L.defers, 0))
  | .dfr true, .deferred ds => ds = some []
  | .dfr false, .deferred ds => ds = none
  | _, _ => False
theorem ObRel.mono {X : Tabs} {E E' : Env} (h : E.Le E') {o : Ob} {ob : Obj} (ho : ObRel X E o ob) : ObRel X E' o ob := by
  cases o <;> cases ob <;> first | exact ho | (rename_i b _; cases b <;> exact ho) | skip
  all_goals simp only [ObRel] at ho ⊢
  · exact ⟨ho.1, ho.2.mono h⟩
  · obtain ⟨h1, h2⟩ := ho
    refine ⟨?_, h2⟩
    split at h1
    · trivial
    · exact h.m _ _ h1
    · exact h1.elim
  · obtain ⟨h1, h2, h4, h5, h6, h7, h8, h9, h10, h11⟩ := ho
    exact ⟨h1, h2, h4.mono h, h5, h6, h7, h8, h9, h10, h.m _ _ h11⟩
theorem ObRel.notCells {X : Tabs} {E : Env} {o : Ob} {cs : Array Value} {el : TypeId} {fr : Nat × Nat} (h : ObRel X E o (.cells cs el fr)) : False := by cases o <;> simp only [ObRel] at h <;> (rename_i b; cases b <;> exact h)

/-- What came in; names. -/
structure ExtRel (K : Nat → Prop) (w0 : World) (E : Env) (sh : Tr (Tr AV)) (nm : List T) : Prop where
  ro : ∀ i t, sh.get i = some t → ∃ b o, E.o[i]? = some (.pointer (some ⟨b, o, none⟩)) ∧ K b ∧ ∀ j v, t.get j = some v → ∃ x, v.den E = some x ∧ w0.cell? ⟨b, j + o, none⟩ = some x
  names : FOK E.va nm
theorem ExtRel.mono {K : Nat → Prop} {w0 : World} {E E' : Env} (h : E.Le E') {sh : Tr (Tr AV)} {nm : List T} (he : ExtRel K w0 E sh nm) : ExtRel K w0 E' sh nm :=
  ⟨fun i t ht => let ⟨b, o, h1, h2, h3⟩ := he.ro i t ht; ⟨b, o, h.o _ _ h1, h2, fun j v hv => let ⟨x, g1, g2⟩ := h3 j v hv; ⟨x, den_mono h _ g1, g2⟩⟩, he.names.mono h.va⟩

structure StRel (X : Tabs) (K : Nat → Prop) (w0 : World) (E : Env) (st : St) (w : World) : Prop where
  n_eq : E.m.length = st.n
  c_eq : E.caps.length = st.nc
  z_eq : E.z.length = st.x.nz
  a_eq : E.a.length = st.x.na
  o_eq : E.o.length = st.x.no
  klt : ∀ k, K k → k < w0.heap.size
  kept : Kept K w0 w
  ids : ∀ (k : Nat) (p : Nat × Nat), E.m[k]? = some (some p) → ¬ K p.1 ∧ p.1 < w.heap.size
  lt : ∀ k b, st.heap.get k = some b → k < st.n ∧ b.fam < st.n
  blks : ∀ k b, st.heap.get k = some b → (E.m[k]? = some none ∧ b.cv = 0 ∧ ∀ i v, b.cell i = some v → okv E v) ∨ ∃ id sh cs el fr, E.m[k]? = some (some (id, sh)) ∧ w.heap[id]? = some (.cells cs el fr) ∧ BlkRel E b sh cs fr
  fams : ∀ k1 k2 b1 b2 id1 sh1 id2 sh2, st.heap.get k1 = some b1 → st.heap.get k2 = some b2 → E.m[k1]? = some (some (id1, sh1)) → E.m[k2]? = some (some (id2, sh2)) → b1.fam ≠ b2.fam → id1 ≠ id2
  livelt : ∀ (f : Nat) (l : List Nat), st.live.get f = some l → f < st.n
  lives : ∀ k b, st.heap.get k = some b → ∀ k' b', st.heap.get k' = some b' → b'.fam = b.fam → k' ∈ famOf st b k
  objs : ∀ k o, st.x.objs.get k = some o → k < st.n ∧ (E.m[k]? = some none ∨ ∃ id ob, E.m[k]? = some (some (id, 0)) ∧ w.heap[id]? = some ob ∧ ObRel X E o ob)
  oinj : ∀ k1 k2 o1 o2 p, st.x.objs.get k1 = some o1 → st.x.objs.get k2 = some o2 → E.m[k1]? = some (some p) → E.m[k2]? = some (some p) → k1 = k2
  apart : ∀ k o, st.x.objs.get k = some o → st.heap.get k = none
  facts : FOK E.va st.x.facts
  famh : ∀ k b p, st.heap.get k = some b → E.m[k]? = some (some p) → ∃ q, E.m[b.fam]? = some (some q)
  liveh : ∀ (f : Nat) (l : List Nat), st.live.get f = some l → (∃ q, E.m[f]? = some (some q)) ∧ ∀ j ∈ l, ∃ q, E.m[j]? = some (some q)
  ext : ExtRel K w0 E X.cx.ro st.x.nm

/-- What has no place yet is as it was. -/
def HP (E E' : Env) (st st' : St) : Prop := ∀ k, E.m[k]? = some none → E'.m[k]? = some none ∧ st'.heap.get k = st.heap.get k ∧ st'.x.objs.get k = st.x.objs.get k ∧ st'.live.get k = st.live.get k
theorem HP.refl (E : Env) (st : St) : HP E E st st := fun _ h => ⟨h, rfl, rfl, rfl⟩
theorem HP.trans {E E' E'' : Env} {st st' st'' : St} (h : HP E E' st st') (h' : HP E' E'' st' st'') : HP E E'' st st'' := fun k hk => by
  obtain ⟨a, b, c, i⟩ := h k hk
  obtain ⟨d, e, f, j⟩ := h' k a
  exact ⟨d, e.trans b, f.trans c, j.trans i⟩

/-- The marks of the loops over functions that an activation has gone through. -/
def DfRel (E : Env) : List Nat → List Deferred → Prop
  | [], [] => True
  | d :: l, x :: r => (∃ id, E.m[d]? = some (some (id, 0)) ∧ x = { target := .collected id, args := #[] }) ∧ DfRel E l r
  | _, _ => False
theorem DfRel.mono {E E' : Env} (h : E.Le E') : ∀ {l : List Nat} {r : List Deferred}, DfRel E l r → DfRel E' l r
  | [], [], _ => trivial
  | _ :: _, _ :: _, ⟨⟨id, h1, h2⟩, h3⟩ => ⟨⟨id, h.m _ _ h1, h2⟩, DfRel.mono h h3⟩
  | [], _ :: _, h => h.elim
  | _ :: _, [], h => h.elim
structure TmRel (E : Env) (tm : Tm) (ds : List Nat) (a : Act) (N : Nat) : Prop where
  size : a.tmps.size = N
  defers : DfRel E ds a.defers
  rel : SlotRel E tm a.tmps
theorem TmRel.mono {E E' : Env} {tm : Tm} {ds : List Nat} {a : Act} {N : Nat} (h : TmRel E tm ds a N) (hE : E.Le E') : TmRel E' tm ds a N := ⟨h.size, h.defers.mono hE, h.rel.mono hE⟩
theorem slot_put (tm : Tm) (p q : Px) (v : AV) : slot (Tr.put p tm (some v)) q = v ∧ p = q ∨ slot (Tr.put p tm (some v)) q = slot tm q ∧ p ≠ q := by
  by_cases e : p = q
  · subst e; left; unfold slot; rw [Tr.getP_put_same]; exact ⟨rfl, rfl⟩
  · right; unfold slot; rw [Tr.getP_put_other _ _ e]; exact ⟨rfl, e⟩
theorem slot_put_same (tm : Tm) (p : Px) (v : AV) : slot (Tr.put p tm (some v)) p = v := by unfold slot; rw [Tr.getP_put_same]
theorem slot_put_other (tm : Tm) {p q : Px} (v : AV) (h : p ≠ q) : slot (Tr.put p tm (some v)) q = slot tm q := by unfold slot; rw [Tr.getP_put_other _ _ h]
theorem SlotRel.put {E : Env} {tm : Tm} {tmps : Array Value} (h : SlotRel E tm tmps) {d : Nat} (hd : d < tmps.size) {v : AV} {x : Value} (hv : v.den E = some x) : SlotRel E (Tr.put (pth d) tm (some v)) (tmps.setIfInBounds d x) := by
  refine ⟨fun t => ?_⟩
  by_cases e : d = t
  · subst e
    rw [slot_put_same]
    refine ⟨x, hv, ?_⟩
    simp [Array.getD_eq_getD_getElem?, hd]
  · rw [slot_put_other _ _ (fun h => e (pth_inj h))]
    obtain ⟨y, h1, h2⟩ := h.slots t
    refine ⟨y, h1, ?_⟩
    rw [← h2]
    simp [Array.getD_eq_getD_getElem?, e]
theorem TmRel.put {E : Env} {tm : Tm} {ds : List Nat} {a : Act} {N : Nat} (h : TmRel E tm ds a N) {d : Nat} (hd : d < N) {v : AV} {x : Value} (hv : v.den E = some x) :
    TmRel E (Tr.put (pth d) tm (some v)) ds (a.put (some d) x) N :=
  ⟨by simp [Act.put, h.size], h.defers, h.rel.put (by rw [h.size]; exact hd) hv⟩
end Go.Sy
/-! Memory: loads, stores, new blocks. -/
namespace Go.Sy

structure CxOK (X : Tabs) (K : Nat → Prop) (w0 : World) : Prop where
  eqm : ∀ t m, X.cx.eqm.get t = some m → X.P.keyTypeAt m t = true ∧ X.P.eqGuardType X.P.depth t = false ∧ m ≤ 10000 ∧ (match X.P.underlying t with | some (.array _ _) | some (.struct _) => true | _ => false) = true
  und : ∀ t d, X.cx.und.get t = some d → X.P.underlying t = some d
  size : ∀ t n, X.cx.size.get t = some n → ∃ i, X.P.info? t = some i ∧ i.size = n
  zero : ∀ t z, X.cx.zero.get t = some z → ∃ i v, X.P.info? t = some i ∧ i.zero = some v ∧ i.size = z.length ∧ i.bytes ≤ 1048576 ∧ (∀ E, denL E z = some v.cells.toList) ∧ ∀ d, X.cx.und.get t = some d → isAggV v = isAggD d
  fld : ∀ t fs, X.cx.und.get t = some (.struct fs) → ∀ f ∈ fs.toList, ∃ i, X.P.info? f.type = some i
  glob : ∀ g t, X.cx.glob.get g = some t → K g ∧ ∀ i v, t.get i = some v → ∃ x, (∀ E, v.den E = some x) ∧ w0.cell? ⟨g, i, none⟩ = some x

section
variable {X : Tabs} {K : Nat → Prop} {w0 : World} {E : Env} {st : St} {w : World} {Θ : Pred} {R : List Back}

theorem CxOK.und' (hc : CxOK X K w0) {t : TypeId} {d : TypeDesc} (h : X.cx.und.get t = some d) (w : World) : (underlying t).run X.P w = .ok d w := run_underlying (hc.und t d h) w
theorem CxOK.size' (hc : CxOK X K w0) {t : TypeId} {n : Nat} (h : X.cx.size.get t = some n) (w : World) : (sizeOf t).run X.P w = .ok n w := by
  obtain ⟨i, hi, hn⟩ := hc.size t n h
  simp [sizeOf, typeInfo, hi, hn, program, Sem.run]
/-- A type's form: none of one cell, some of many. -/
theorem aggN_sound (hc : CxOK X K w0) {t : TypeId} {n : Option Nat} (h : aggN X.cx.und X.cx.size t = some n) (w : World) : (Go.isAgg t).run X.P w = .ok n.isSome w ∧ ∀ m, n = some m → X.cx.size.get t = some m := by
  obtain ⟨d, hd, h⟩ := obind_inv h
  have hi : (Go.isAgg t).run X.P w = .ok (isAggD d) w := by
    simp only [Go.isAgg, Sem.run_bind, hc.und' hd, Result.andThen_ok]
    cases d <;> rfl
  rw [hi]
  cases e : isAggD d with
  | true =>
    rw [e, bif_true] at h
    obtain ⟨m, hm, h⟩ := obind_inv h
    cases h
    exact ⟨rfl, fun k hk => by cases hk; exact hm⟩
  | false =>
    rw [e, bif_false] at h
    cases h
    exact ⟨rfl, fun k hk => by cases hk⟩

theorem add_eq (b o n : Nat) : (⟨b, o, none⟩ : Addr).add n = ⟨b, o + n, none⟩ := by unfold Addr.add; split <;> simp_all
theorem aden_a {k off : Nat} {ad : Addr} (h : aden E ⟨.a k, off⟩ = some ad) : ∃ b o, E.o[k]? = some (.pointer (some ⟨b, o, none⟩)) ∧ ad = ⟨b, off + o, none⟩ := by
  simp only [aden] at h
  split at h
  · rename_i b o ho; cases h; exact ⟨b, o, ho, rfl⟩
  · cases h
theorem aden_a_of {k off b o : Nat} (h : E.o[k]? = some (.pointer (some ⟨b, o, none⟩))) : aden E ⟨.a k, off⟩ = some ⟨b, off + o, none⟩ := by simp [aden, h]
theorem aden_add {b : Bid} {off : Nat} {ad : Addr} (h : aden E ⟨b, off⟩ = some ad) (n : Nat) : aden E ⟨b, off + n⟩ = some (ad.add n) := by
  cases b with
  | g g => cases h; rw [add_eq]; rfl
  | a k =>
    obtain ⟨b, o, hp, rfl⟩ := aden_a h
    rw [aden_a_of hp, add_eq]
    congr 2; omega
  | r k =>
    obtain ⟨p, hp, rfl⟩ := aden_r h
    rw [aden_r_of hp, add_eq]
    congr 2; omega

theorem cell_eq (b : Blk) (i : Nat) : b.cell i = match b.cells.get i with
    | some v => some v
    | none => if i < b.sz then (match b.zn with | 0 => none | j + 1 => b.z[i % (j + 1)]?) else none := by
  unfold Blk.cell
  cases b.cells.get i with
  | some v => rfl
  | none =>
    show bif_ (Nat.blt i b.sz) (natCase b.zn none fun j => getL (Nat.mod i (Nat.succ j)) b.z) none = _
    rw [blt_iff, natCase_eq]
    by_cases c : i < b.sz
    · rw [decide_eq_true c, if_pos c, bif_true]
      cases b.zn with
      | zero => rfl
      | succ j => show getL _ _ = _; rw [getL_eq]; rfl
    · rw [decide_eq_false c, if_neg c]; rfl

theorem blk_of (hS : StRel X K w0 E st w) {k : Nat} {b : Blk} (hb : st.heap.get k = some b) {p : Nat × Nat} (hp : E.m[k]? = some (some p)) :
    ∃ cs el fr, w.heap[p.1]? = some (.cells cs el fr) ∧ BlkRel E b p.2 cs fr := by
  rcases hS.blks k b hb with ⟨h, _⟩ | ⟨id, sh, cs, el, fr, h1, h2, h3⟩
  · rw [hp] at h; cases h
  · rw [hp] at h1; cases h1; exact ⟨cs, el, fr, h2, h3⟩

theorem readB_sound (hc : CxOK X K w0) (hS : StRel X K w0 E st w) {b : Bid} {i : Nat} {v : AV} (h : readB X.cx st i b = some v) {ad : Addr} (ha : aden E ⟨b, i⟩ = some ad) : ∃ x, v.den E = some x ∧ w.cell? ad = some x := by
  cases b with
  | g n =>
    cases ha
    obtain ⟨t, ht, h⟩ := obind_inv h
    obtain ⟨hk, hg⟩ := hc.glob n t ht
    obtain ⟨x, h1, h2⟩ := hg _ v h
    refine ⟨x, h1 E, ?_⟩
    have := hS.kept.block n hk
    simp only [World.cell?, this] at h2 ⊢
    exact h2
  | r k =>
    obtain ⟨bl, hbl, h⟩ := obind_inv h
    obtain ⟨p, hp, rfl⟩ := aden_r ha
    obtain ⟨cs, el, fr, hh, hr⟩ := blk_of hS hbl hp
    obtain ⟨x, h1, h2⟩ := hr.cells _ v h
    exact ⟨x, h1, by simp [World.cell?, hh, h2]⟩
  | a k =>
    obtain ⟨t, ht, h⟩ := obind_inv h
    obtain ⟨b, o, hp, rfl⟩ := aden_a ha
    obtain ⟨b', o', hp', hk, hg⟩ := hS.ext.ro k t ht
    rw [hp] at hp'; cases hp'
    obtain ⟨x, h1, h2⟩ := hg _ v h
    refine ⟨x, h1, ?_⟩
    have := hS.kept.block b hk
    simp only [World.cell?, this] at h2 ⊢
    exact h2

theorem getsB_spec {f : Nat → Option AV} : ∀ (n o : Nat) {l : List AV}, getsB f n o = some l → l.length = n ∧ ∀ j v, l[j]? = some v → f (o + j) = some v
  | 0, o, l, h => by
    change some [] = some l at h
    cases h; exact ⟨rfl, fun j v hv => by simp at hv⟩
  | n + 1, o, l, h => by
    change obind (f o) (fun v => obind (getsB f n (o + 1)) fun vs => some (v :: vs)) = some l at h
    obtain ⟨v, hv, h⟩ := obind_inv h
    obtain ⟨vs, hvs, h⟩ := obind_inv h
    cases h
    obtain ⟨h1, h2⟩ := getsB_spec n (o + 1) hvs
    refine ⟨by simp [h1], fun j u hu => ?_⟩
    cases j with
    | zero => simp at hu; subst hu; exact hv
    | succ j => rw [show o + (j + 1) = o + 1 + j by omega]; exact h2 j u (by simpa using hu)
theorem cellsFrom_spec {b : Bid} {n o : Nat} {l : List AV} (h : cellsFrom X.cx st n o b = some l) : l.length = n ∧ ∀ j v, l[j]? = some v → readB X.cx st (o + j) b = some v := by
  cases b with
  | g g =>
    obtain ⟨t, ht, h⟩ := obind_inv h
    obtain ⟨h1, h2⟩ := getsB_spec n o h
    exact ⟨h1, fun j v hv => by show obind _ _ = _; rw [ht]; exact h2 j v hv⟩
  | r k =>
    obtain ⟨t, ht, h⟩ := obind_inv h
    obtain ⟨h1, h2⟩ := getsB_spec n o h
    exact ⟨h1, fun j v hv => by show obind _ _ = _; rw [ht]; exact h2 j v hv⟩
  | a k =>
    obtain ⟨t, ht, h⟩ := obind_inv h
    obtain ⟨h1, h2⟩ := getsB_spec n o h
    exact ⟨h1, fun j v hv => by show obind _ _ = _; rw [ht]; exact h2 j v hv⟩
theorem cells_sound (hc : CxOK X K w0) (hS : StRel X K w0 E st w) {b : Bid} {n o : Nat} {l : List AV} (h : cellsFrom X.cx st n o b = some l) {ad : Addr} (ha : aden E ⟨b, o⟩ = some ad) :
    ∃ xs, denL E l = some xs ∧ xs.length = n ∧ (Go.loadCells ad n).run X.P w = .ok xs.toArray w ∧ ∀ (j : Nat) (y : Value), xs[j]? = some y → w.cell? (ad.add j) = some y := by
  obtain ⟨h1, h2⟩ := cellsFrom_spec h
  have key : ∀ j v, l[j]? = some v → ∃ x, v.den E = some x ∧ w.cell? (ad.add j) = some x := fun j v hv => readB_sound hc hS (h2 j v hv) (aden_add ha j)
  let xs : List Value := l.map fun v => (v.den E).getD undef
  have hxs : denL E l = some xs := denL_of (by simp [xs]) fun i v hv => by
    obtain ⟨x, h3, _⟩ := key i v hv
    exact ⟨x, h3, by simp [xs, hv, h3]⟩
  have hlen : xs.length = n := by simp [xs, h1]
  have hcells : ∀ (j : Nat) (x : Value), xs[j]? = some x → w.cell? (ad.add j) = some x := by
   intro j x hx
   have : ∃ v, l[j]? = some v := by
     have : j < l.length := by have := (List.getElem?_eq_some_iff.1 hx).1; simpa [xs] using this
     exact ⟨_, List.getElem?_eq_getElem this⟩
   obtain ⟨v, hv⟩ := this
   obtain ⟨y, h3, h4⟩ := key j v hv
   have : xs[j]? = some y := by simp [xs, hv, h3]
   rw [hx] at this; cases this
   exact h4
  refine ⟨xs, hxs, hlen, ?_, hcells⟩
  rw [← hlen]
  exact run_loadCells_list _ _ _ hcells

/-- A load of a type of that form. -/
theorem loadVar_sound (hc : CxOK X K w0) (hS : StRel X K w0 E st w) {t : TypeId} {n : Option Nat} (hn : aggN X.cx.und X.cx.size t = some n) {x : AAddr} {v : AV} (h : loadVar X.cx st n x = some v) {ad : Addr} (ha : aden E x = some ad) :
    ∃ y, v.den E = some y ∧ (Go.loadVar t ad).run X.P w = .ok y w := by
  obtain ⟨hi, hs⟩ := aggN_sound hc hn w
  cases n with
  | none =>
    obtain ⟨y, h1, h2⟩ := readB_sound hc hS (b := x.b) (i := x.off) h ha
    exact ⟨y, h1, by simp [Go.loadVar, hi, h2]⟩
  | some n =>
    obtain ⟨l, hl, h⟩ := obind_inv h
    cases h
    obtain ⟨xs, h1, h2, h3, _⟩ := cells_sound hc hS (b := x.b) (o := x.off) hl ha
    exact ⟨.agg xs.toArray, den_agg_of h1, by simp [Go.loadVar, hi, hc.size' (hs n rfl), h3]⟩

theorem allOne_mem : ∀ {l : List AV}, allOne l = true → ∀ v ∈ l, one1 v = true
  | [], _, v, hv => by cases hv
  | u :: r, h, v, hv => by
    change (Bool.rec false (allOne r) (one1 u) : Bool) = true at h
    cases hu : one1 u with
    | false => rw [hu] at h; cases h
    | true =>
      rw [hu] at h
      cases hv with
      | head => exact hu
      | tail _ hv => exact allOne_mem h v hv
theorem denL_one : ∀ {l : List AV} {xs : List Value}, (∀ v ∈ l, one1 v = true) → denL E l = some xs → ∀ x ∈ xs, x.oneCell' = true
  | [], xs, _, h, x, hx => by rw [denL_nil.1 h] at hx; cases hx
  | v :: r, xs, h1, h, x, hx => by
    obtain ⟨p, q, hp, hq, rfl⟩ := denL_cons.1 h
    cases hx with
    | head => exact den_one (h1 v (by simp)) hp
    | tail _ hx => exact denL_one (fun u hu => h1 u (by simp [hu])) hq x hx
theorem den_cells {v : AV} {y : Value} (hd : notDead v = true) (h : v.den E = some y) : ∃ xs, denL E v.cells = some xs ∧ y.cells.toList = xs := by
  have key : v.cells = [v] → (∀ c, y ≠ .agg c) → ∃ xs, denL E v.cells = some xs ∧ y.cells.toList = xs := by
    intro h1 h2
    refine ⟨[y], ?_, ?_⟩
    · rw [h1]; exact denL_cons.2 ⟨y, [], h, rfl, rfl⟩
    · cases y <;> first | rfl | exact absurd rfl (h2 _)
  by_cases hone : one1 v = true
  · refine key ?_ ?_
    · cases v <;> first | rfl | cases hone
    · intro c hc; subst hc; have := den_one hone h; cases this
  · cases v <;> simp [one1] at hone
    · cases hd
    · obtain ⟨xs, hxs, rfl⟩ := den_agg h
      exact ⟨xs, hxs, by simp [Value.cells]⟩
    · refine key rfl ?_
      simp only [AV.den, Option.map_eq_some_iff] at h
      obtain ⟨xs, hxs, rfl⟩ := h
      intro c hc; cases hc

theorem killOthers_get (k : Nat) : ∀ (l : List Nat) (h : Tr Blk) (j : Nat), (killOthers h k l).get j = if j ∈ l ∧ j ≠ k then none else h.get j
  | [], h, j => by simp [killOthers]
  | i :: r, h, j => by
    simp only [killOthers]
    cases e : Nat.beq i k with
    | true =>
      have : i = k := Nat.eq_of_beq_eq_true e
      simp only [bif_true]
      rw [killOthers_get k r h j]
      by_cases c : j ∈ r ∧ j ≠ k
      · rw [if_pos c, if_pos (by simp [c.1, c.2])]
      · rw [if_neg c, if_neg]
        rintro ⟨h1, h2⟩
        rcases List.mem_cons.1 h1 with h1 | h1
        · exact h2 (h1.trans this)
        · exact c ⟨h1, h2⟩
    | false =>
      have : i ≠ k := Nat.ne_of_beq_eq_false e
      simp only [bif_false]
      rw [killOthers_get k r _ j, Tr.get_set]
      by_cases c : j ∈ r ∧ j ≠ k
      · rw [if_pos c, if_pos (by simp [c.1, c.2])]
      · rw [if_neg c]
        by_cases c2 : i = j
        · subst c2; rw [if_pos rfl, if_pos (by simp [this])]
        · rw [if_neg c2, if_neg]
          rintro ⟨h1, h2⟩
          rcases List.mem_cons.1 h1 with h1 | h1
          · exact c2 h1.symm
          · exact c ⟨h1, h2⟩

theorem setRow_other (w : World) (g : Nat) (cs : Array Value) {i : Nat} (h : i ≠ g) : (w.setRow g cs).heap[i]? = w.heap[i]? := by
  simp only [World.setRow, Array.getElem?_modify]
  rw [if_neg (by omega)]
theorem setRow_size (w : World) (g : Nat) (cs : Array Value) : (w.setRow g cs).heap.size = w.heap.size := by simp [World.setRow]
theorem Kept.setRow (h : Kept K w0 w) {g : Nat} (hg : ¬ K g) (cs : Array Value) : Kept K w0 (w.setRow g cs) :=
  h.trans ⟨rfl, rfl, rfl, by rw [setRow_size]; exact Nat.le_refl _, fun k hk => setRow_other _ _ _ (fun e => hg (e ▸ hk))⟩
theorem Kept.alloc (h : Kept K w0 w) (hl : ∀ k, K k → k < w.heap.size) (o : Obj) : Kept K w0 (w.alloc o) :=
  h.trans ⟨rfl, rfl, rfl, by simp, fun k hk => Go.RowKit.Below.heap_alloc _ _ _ (hl k hk)⟩
theorem StRel.klt' (hS : StRel X K w0 E st w) : ∀ k, K k → k < w.heap.size := fun k hk => Nat.lt_of_lt_of_le (hS.klt k hk) hS.kept.size

/-- A change of block k's cells. -/
theorem stored (hS : StRel X K w0 E st w) {k : Nat} {b : Blk} (hk : st.heap.get k = some b) {id sh : Nat} {cs cs' : Array Value} {el : TypeId} {fr : Nat × Nat} (hm : E.m[k]? = some (some (id, sh)))
    (hh : w.heap[id]? = some (.cells cs el fr)) {b' : Blk} (hfam : b'.fam = b.fam) (hr : BlkRel E b' sh cs' fr) {h' : Tr Blk} {l' : Tr (List Nat)}
    (hget : ∀ j, h'.get j = if j = k then some b' else if j ∈ famOf st b k then none else st.heap.get j)
    (hlive : ∀ f, l'.get f = st.live.get f ∨ (f = b.fam ∧ l'.get f = some [k])) :
    StRel X K w0 E ⟨st.n, st.nc, h', l', st.x⟩ (w.setRow id cs') := by
  have other : ∀ j bj, h'.get j = some bj → j ≠ k → st.heap.get j = some bj ∧ bj.fam ≠ b.fam := by
    intro j bj hj hne
    rw [hget, if_neg hne] at hj
    split at hj
    · cases hj
    · rename_i hnot
      exact ⟨hj, fun e => hnot (hS.lives k b hk j bj hj e)⟩
  have same : h'.get k = some b' := by rw [hget, if_pos rfl]
  have idk : ∀ j o, st.x.objs.get j = some o → ∀ id2 ob, w.heap[id2]? = some ob → ObRel X E o ob → id2 ≠ id := by
    intro j o _ id2 ob h1 h2 e
    subst e
    rw [hh] at h1; cases h1
    exact h2.notCells
  refine ⟨hS.n_eq, hS.c_eq, hS.z_eq, hS.a_eq, hS.o_eq, hS.klt, hS.kept.setRow (hS.ids k _ hm).1 _, ?_, ?_, ?_, ?_, ?_, ?_, ?_, hS.oinj, ?_, hS.facts, ?_, ?_, hS.ext⟩
  · intro i p hp; rw [setRow_size]; exact hS.ids i p hp
  · intro j bj hj
    by_cases e : j = k
    · subst e; rw [same] at hj; cases hj; exact ⟨(hS.lt j b hk).1, by rw [hfam]; exact (hS.lt j b hk).2⟩
    · exact hS.lt j bj (other j bj hj e).1
  · intro j bj hj
    by_cases e : j = k
    · subst e; rw [same] at hj; cases hj
      exact .inr ⟨id, sh, cs', el, fr, hm, setRow_heap w id cs cs' el fr hh, hr⟩
    · obtain ⟨h1, h2⟩ := other j bj hj e
      rcases hS.blks j bj h1 with h0 | ⟨id2, sh2, cs2, el2, fr2, hm2, hh2, hr2⟩
      · exact .inl h0
      · have hne : id2 ≠ id := hS.fams j k bj b id2 sh2 id sh h1 hk hm2 hm h2
        exact .inr ⟨id2, sh2, cs2, el2, fr2, hm2, by rw [setRow_other _ _ _ hne]; exact hh2, hr2⟩
  · intro k1 k2 b1 b2 id1 sh1 id2 sh2 h1 h2 m1 m2 hf
    have old : ∀ j bj, h'.get j = some bj → ∃ bj', st.heap.get j = some bj' ∧ bj'.fam = bj.fam := by
      intro j bj hj
      by_cases e : j = k
      · subst e; rw [same] at hj; cases hj; exact ⟨b, hk, hfam.symm⟩
      · exact ⟨bj, (other j bj hj e).1, rfl⟩
    obtain ⟨b1', e1, f1⟩ := old k1 b1 h1
    obtain ⟨b2', e2, f2⟩ := old k2 b2 h2
    exact hS.fams k1 k2 b1' b2' id1 sh1 id2 sh2 e1 e2 m1 m2 (by rw [f1, f2]; exact hf)
  · intro f l hl
    rcases hlive f with h | ⟨h, _⟩
    · exact hS.livelt f l (by rw [← h]; exact hl)
    · rw [h]; exact (hS.lt k b hk).2
  · intro j bj hj k' b2 hk' hf
    by_cases e : j = k
    · subst e; rw [same] at hj; cases hj
      by_cases e' : k' = j
      · subst e'
        unfold famOf
        rw [hfam]
        rcases hlive b.fam with h | ⟨_, h⟩
        · show k' ∈ (Option.rec [k'] (fun l => l) (l'.get b.fam) : List Nat)
          rw [h]; exact hS.lives k' b hk k' b hk rfl
        · show k' ∈ (Option.rec [k'] (fun l => l) (l'.get b.fam) : List Nat)
          rw [h]; simp
      · exact absurd (hf.trans hfam) (other k' b2 hk' e').2
    · obtain ⟨h1, h2⟩ := other j bj hj e
      have hne : k' ≠ k := by
        rintro rfl
        rw [same] at hk'; cases hk'; exact h2 (hf.symm.trans hfam)
      obtain ⟨h3, _⟩ := other k' b2 hk' hne
      have := hS.lives j bj h1 k' b2 h3 hf
      unfold famOf at this ⊢
      rcases hlive bj.fam with h | ⟨h, _⟩
      · show k' ∈ (Option.rec [j] (fun l => l) (l'.get bj.fam) : List Nat)
        rw [h]; exact this
      · exact absurd h h2
  · intro j o ho
    obtain ⟨h1, h2⟩ := hS.objs j o ho
    refine ⟨h1, h2.imp (fun h => h) ?_⟩
    rintro ⟨id2, ob, g1, g2, g3⟩
    exact ⟨id2, ob, g1, by rw [setRow_other _ _ _ (idk j o ho id2 ob g2 g3)]; exact g2, g3⟩
  · intro j o ho
    show h'.get j = none
    have h0 := hS.apart j o ho
    rw [hget]
    have : j ≠ k := by rintro rfl; rw [hk] at h0; cases h0
    rw [if_neg this, h0]
    split <;> rfl
  · intro j bj p hj hp
    by_cases e : j = k
    · subst e; rw [same] at hj; cases hj; rw [hfam]; exact hS.famh _ b _ hk hm
    · exact hS.famh j bj p (other j bj hj e).1 hp
  · intro f l hl
    rcases hlive f with h | ⟨h, h2⟩
    · exact hS.liveh f l (by rw [← h]; exact hl)
    · have hl : l'.get f = some l := hl
      rw [h2] at hl; cases hl
      subst h
      refine ⟨hS.famh k b _ hk hm, fun j hj => ?_⟩
      rw [List.mem_singleton.1 hj]; exact ⟨_, hm⟩

theorem splice_get (l xs : List Value) (o i : Nat) (h : o + xs.length ≤ l.length) :
    (l.take o ++ xs ++ l.drop (o + xs.length)).toArray[i]? = if o ≤ i ∧ i < o + xs.length then xs[i - o]? else l[i]? := by
  simp only [List.getElem?_toArray]
  by_cases c : i < o
  · rw [if_neg (by omega), List.append_assoc, List.getElem?_append_left (by simp; omega), List.getElem?_take, if_pos c]
  · by_cases c2 : i < o + xs.length
    · rw [if_pos ⟨by omega, c2⟩, List.append_assoc, List.getElem?_append_right (by simp; omega), List.getElem?_append_left (by simp; omega)]
      congr 1; simp; omega
    · rw [if_neg (by omega), List.getElem?_append_right (by simp; omega), List.getElem?_drop]
      congr 1; simp; omega

theorem run_storeCells_free (P : Program) (g o : Nat) (t : TypeId) (fz : Nat × Nat) : ∀ (vs : List Value) (i : Nat) (cur : Array Value) (w : World), w.heap[g]? = some (.cells cur t fz) → (∀ j, j < cur.size → ¬ (fz.1 ≤ j ∧ j < fz.2)) → o + i + vs.length ≤ cur.size → (∀ v ∈ vs, v.oneCell' = true) →
    (Go.storeCells ⟨g, o, none⟩ vs i).run P w = .ok () (w.setRow g (cur.toList.take (o + i) ++ vs ++ cur.toList.drop (o + i + vs.length)).toArray)
  | [], i, cur, w, hg, _, _, _ => by
    simp only [Go.storeCells, List.append_nil, List.length_nil, Nat.add_zero, List.take_append_drop, Array.toArray_toList]
    rw [setRow_self w g cur t fz hg]
    rfl
  | v :: rest, i, cur, w, hg, hfz, hl, h1 => by
    have hi : o + i < cur.size := by simp at hl; omega
    have hadd : (⟨g, o, none⟩ : Addr).add i = ⟨g, o + i, none⟩ := by unfold Addr.add; split <;> simp_all
    have hcell : w.cell? ⟨g, o + i, none⟩ = some cur[o + i] := by simp [World.cell?, hg, hi]
    have hfro : w.frozen? ⟨g, o + i, none⟩ = false := by
      have := hfz (o + i) hi
      obtain ⟨lo, hi'⟩ := fz
      simp only [World.frozen?, hg, Bool.and_eq_false_iff, decide_eq_false_iff_not]
      simp only at this
      omega
    have hst : (store ((⟨g, o, none⟩ : Addr).add i) v).run P w = .ok () (w.setRow g (cur.setIfInBounds (o + i) v)) := by
      rw [hadd, run_store P w _ v _ (h1 v (by simp)), hcell]
      simp [hfro, setCell_eq_setRow w g (o + i) cur t fz v hg]
    have ih := run_storeCells_free P g o t fz rest (i + 1) (cur.setIfInBounds (o + i) v) (w.setRow g (cur.setIfInBounds (o + i) v)) (setRow_heap w g cur _ t _ hg) (by simpa using hfz) (by simp at hl ⊢; omega) (fun x hx => h1 x (by simp [hx]))
    simp only [Go.storeCells, Sem.run_bind, hst, Result.andThen_ok, ih, setRow_setRow]
    congr 3
    have e := list_seg_step cur.toList (o + i) v rest (by simp at hl ⊢; omega)
    simpa [Array.toList_setIfInBounds, Nat.add_assoc] using e

theorem putBlk_eq (st : St) (k : Nat) (b : Blk) (t : Tr AV) (K : St → VC) : ∃ h' l', putBlk st k b t K = K ⟨st.n, st.nc, h', l', st.x⟩ ∧
    (∀ j, h'.get j = if j = k then some { b with cells := t } else if j ∈ famOf st b k then none else st.heap.get j) ∧ (∀ f, l'.get f = st.live.get f ∨ (f = b.fam ∧ l'.get f = some [k])) := by
  obtain ⟨n, nc, h, lv, x⟩ := st
  obtain ⟨sz, cells, z, zn, fam, cv, es⟩ := b
  unfold putBlk famOf
  simp only
  cases hl : lv.get fam with
  | none =>
    refine ⟨_, _, Tr.setK_eq _ _ _ _, fun j => ?_, fun f => .inl rfl⟩
    rw [Tr.get_set]
    by_cases e : k = j
    · subst e; simp
    · rw [if_neg e, if_neg (fun h => e h.symm), if_neg (by simp; exact fun h => e h.symm)]
  | some l =>
    refine ⟨_, _, (by
      show (killOthers h k l).setK k _ (fun h => lv.setK fam (some [k]) fun lv => K ⟨n, nc, h, lv, x⟩) = _
      rw [Tr.setK_eq, Tr.setK_eq]), fun j => ?_, fun f => ?_⟩
    · rw [Tr.get_set]
      by_cases e : k = j
      · subst e; simp
      · rw [if_neg e, if_neg (fun h => e h.symm), killOthers_get]
        by_cases c : j ∈ l
        · rw [if_pos ⟨c, fun h => e h.symm⟩, if_pos c]
        · rw [if_neg (fun h => c h.1), if_neg c]
    · rw [Tr.get_set]
      by_cases e : fam = f
      · rw [if_pos e]; exact .inr ⟨e.symm, rfl⟩
      · rw [if_neg e]; exact .inl rfl

theorem fam_mem (hS : StRel X K w0 E st w) {k : Nat} {b : Blk} {p : Nat × Nat} (hm : E.m[k]? = some (some p)) : ∀ j ∈ famOf st b k, ∃ q, E.m[j]? = some (some q) := by
  intro j hj
  unfold famOf at hj
  cases hl : st.live.get b.fam with
  | none => rw [hl] at hj; rw [List.mem_singleton.1 hj]; exact ⟨p, hm⟩
  | some l => rw [hl] at hj; exact (hS.liveh _ l hl).2 j hj
/-- Blocks without a place are of their own. -/
theorem hp_stored (hS : StRel X K w0 E st w) {k : Nat} {b : Blk} (hk : st.heap.get k = some b) {p : Nat × Nat} (hm : E.m[k]? = some (some p)) {h' : Tr Blk} {l' : Tr (List Nat)} {b' : Blk}
    (hget : ∀ j, h'.get j = if j = k then some b' else if j ∈ famOf st b k then none else st.heap.get j)
    (hlive : ∀ f, l'.get f = st.live.get f ∨ (f = b.fam ∧ l'.get f = some [k])) : HP E E st ⟨st.n, st.nc, h', l', st.x⟩ := by
  intro j hj
  refine ⟨hj, ?_, rfl, ?_⟩
  · show h'.get j = _
    rw [hget, if_neg (fun e => by rw [e, hm] at hj; cases hj), if_neg (fun e => by obtain ⟨q, hq⟩ := fam_mem hS hm j e; rw [hq] at hj; cases hj)]
  · rcases hlive j with h | ⟨h, _⟩
    · exact h
    · obtain ⟨q, hq⟩ := hS.famh k b p hk hm
      rw [h, hq] at hj; cases hj

/-- Some cells are stored. -/
theorem storeCells_sound (hS : StRel X K w0 E st w) {k off : Nat} {vs : List AV} {F : St → VC} (h : (storeCells st k off vs F).holds Θ E.va R)
    {xs : List Value} (hx : denL E vs = some xs) {ad : Addr} (ha : aden E ⟨.r k, off⟩ = some ad) :
    ∃ st' w', (F st').holds Θ E.va R ∧ (Go.storeCells ad xs).run X.P w = .ok () w' ∧ StRel X K w0 E st' w' ∧ HP E E st st' := by
  obtain ⟨b, hb, h⟩ := vbind_inv h
  obtain ⟨hcond, h⟩ := vif_inv h
  simp only [Bool.and_eq_true, ble_iff, decide_eq_true_eq] at hcond
  obtain ⟨hle, hone⟩ := hcond
  obtain ⟨p, hm, rfl⟩ := aden_r ha
  obtain ⟨cs, el, fr, hh, hr⟩ := blk_of hS hb hm
  have hle' : off + vs.length ≤ b.sz := by rw [lenL_eq] at hle; exact hle
  have hxl := denL_length hx
  have hroom := hr.room
  have hrun := run_storeCells_free X.P p.1 (off + p.2) el fr xs 0 cs w hh hr.free' (by rw [hxl]; omega) (denL_one (allOne_mem hone) hx)
  simp only [Nat.add_zero] at hrun
  rw [putsK_eq] at h
  obtain ⟨h', l', e, hget, hlive⟩ := putBlk_eq st k b (puts vs off b.cells) F
  rw [e] at h
  have hblk : BlkRel E { b with cells := puts vs off b.cells } p.2 (cs.toList.take (off + p.2) ++ xs ++ cs.toList.drop (off + p.2 + xs.length)).toArray fr := by
    have hsz : (cs.toList.take (off + p.2) ++ xs ++ cs.toList.drop (off + p.2 + xs.length)).toArray.size = cs.size := by
      simp only [List.size_toArray, List.length_append, List.length_take, List.length_drop, Array.length_toList]; omega
    refine ⟨by rw [hsz]; exact hr.free, by rw [hsz]; exact hr.room, fun i v hv => ?_, fun i hi => by rw [hsz]; exact hr.cap i hi, fun i v hv => ?_⟩
    · have hv' : (puts vs off b.cells).get i = some v := hv
      rw [puts_get] at hv'
      split at hv'
      · show i < b.sz; omega
      · exact hr.bnd i v hv'
    rw [cell_eq] at hv
    have hv' : (match (puts vs off b.cells).get i with | some v => some v | none => if i < b.sz then (match b.zn with | 0 => none | j + 1 => b.z[i % (j + 1)]?) else none) = some v := hv
    rw [puts_get] at hv'
    by_cases c : off ≤ i ∧ i < off + vs.length
    · rw [if_pos c] at hv'
      have hlt : i - off < vs.length := by omega
      have hg : vs[i - off]? = some vs[i - off] := List.getElem?_eq_getElem hlt
      rw [hg] at hv'
      cases hv'
      obtain ⟨y, h1, h2⟩ := denL_get hx hg
      refine ⟨y, h1, ?_⟩
      rw [splice_get _ _ _ _ (by simp; omega), if_pos (by omega), ← h2]
      congr 1; omega
    · rw [if_neg c] at hv'
      have hv2 : b.cell i = some v := by rw [cell_eq]; exact hv'
      obtain ⟨y, h1, h2⟩ := hr.cells i v hv2
      refine ⟨y, h1, ?_⟩
      rw [splice_get _ _ _ _ (by simp; omega), if_neg (by omega)]
      simpa using h2
  exact ⟨_, _, h, hrun, stored (b' := { b with cells := puts vs off b.cells }) hS hb hm hh rfl hblk hget hlive, hp_stored hS hb hm hget hlive⟩

theorem storeAt_sound (hc : CxOK X K w0) (hS : StRel X K w0 E st w) {t : TypeId} {n : Nat} (hn : X.cx.size.get t = some n) {x : AAddr} {v : AV} {F : Kt} (h : (storeAt n v st F x.off x.b).holds Θ E.va R)
    {y : Value} (hy : v.den E = some y) {ad : Addr} (ha : aden E x = some ad) :
    ∃ st' w', (F (.tuple []) st').holds Θ E.va R ∧ (Go.storeVar t ad y).run X.P w = .ok () w' ∧ StRel X K w0 E st' w' ∧ HP E E st st' := by
  obtain ⟨b, off⟩ := x
  cases b with
  | g n => exact h.elim
  | a n => exact h.elim
  | r k =>
    obtain ⟨hcond, h⟩ := vif_inv h
    have hlen : n = v.cells.length := by have := Nat.eq_of_beq_eq_true hcond; rw [lenL_eq] at this; exact this
    have hd : notDead v = true := by
      cases v <;> first | rfl | skip
      obtain ⟨b, _, h⟩ := vbind_inv h
      obtain ⟨h, _⟩ := vif_inv h
      rw [Bool.and_eq_true] at h
      cases h.2
    obtain ⟨xs, hxs, hcs⟩ := den_cells hd hy
    obtain ⟨st', w', h1, h2, h3, h4⟩ := storeCells_sound hS h hxs ha
    refine ⟨st', w', h1, ?_, h3, h4⟩
    have hsz : y.cells.size = n := by rw [hlen, ← denL_length hxs, ← hcs]; simp
    simp [Go.storeVar, hc.size' hn, hsz, hcs, h2]

/-! ### New blocks -/
def Env.push (E : Env) (p : Option (Nat × Nat)) : Env := { E with m := E.m ++ [p] }
theorem Env.le_push (E : Env) (p : Option (Nat × Nat)) : E.Le (E.push p) :=
  ⟨fun k q h => by show (E.m ++ [p])[k]? = _; rw [List.getElem?_append_left (List.getElem?_eq_some_iff.1 h).1]; exact h, fun _ _ h => h, .refl _, fun _ _ h => h,
   fun k h => ⟨none, by show (E.m ++ [p])[k]? = _; rw [List.getElem?_append_left (List.getElem?_eq_some_iff.1 h).1]; exact h, fun _ e => by cases e⟩⟩
theorem push_get (E : Env) (p : Option (Nat × Nat)) (k : Nat) (q : Option (Nat × Nat)) (h : (E.push p).m[k]? = some q) : (k < E.m.length ∧ E.m[k]? = some q) ∨ (k = E.m.length ∧ q = p) := by
  have h : (E.m ++ [p])[k]? = some q := h
  by_cases c : k < E.m.length
  · rw [List.getElem?_append_left c] at h; exact .inl ⟨c, h⟩
  · rw [List.getElem?_append_right (by omega)] at h
    have : k - E.m.length < 1 := by have := (List.getElem?_eq_some_iff.1 h).1; simpa using this
    have e : k = E.m.length := by omega
    subst e; simp at h
    exact .inr ⟨rfl, h.symm⟩
theorem push_new (E : Env) (p : Option (Nat × Nat)) : (E.push p).m[E.m.length]? = some p := by show (E.m ++ [p])[E.m.length]? = _; simp
theorem push_old (E : Env) (p : Option (Nat × Nat)) {k : Nat} (h : k < E.m.length) : (E.push p).m[k]? = E.m[k]? := by show (E.m ++ [p])[k]? = _; rw [List.getElem?_append_left h]
theorem hp_push (E : Env) (p : Option (Nat × Nat)) {st st' : St} (hn : E.m.length = st.n) (h1 : ∀ k, k < st.n → st'.heap.get k = st.heap.get k) (h2 : ∀ k, k < st.n → st'.x.objs.get k = st.x.objs.get k) (h3 : st'.live = st.live) : HP E (E.push p) st st' := by
  intro k hk
  have hlt := (List.getElem?_eq_some_iff.1 hk).1
  exact ⟨by rw [push_old E p hlt]; exact hk, h1 k (by omega), h2 k (by omega), by rw [h3]⟩

/-- Something new that is not yet in memory, or just came there. -/
theorem StRel.newCells (hS : StRel X K w0 E st w) {b : Blk} (hfam : b.fam = st.n) {w' : World} {p : Option (Nat × Nat)}
    (hp : (p = none ∧ w' = w ∧ b.cv = 0 ∧ ∀ i v, b.cell i = some v → okv (E.push p) v) ∨ ∃ ys el, p = some (w.heap.size, 0) ∧ w' = w.alloc (.cells ys el) ∧ BlkRel (E.push p) b 0 ys (0, 0)) :
    StRel X K w0 (E.push p) ⟨st.n + 1, st.nc, st.heap.set st.n (some b), st.live, st.x⟩ w' := by
  have hle := E.le_push p
  have hsz : w.heap.size ≤ w'.heap.size := by rcases hp with ⟨_, rfl, _⟩ | ⟨ys, el, _, rfl, _⟩ <;> simp
  have hsame : ∀ i, i < w.heap.size → w'.heap[i]? = w.heap[i]? := by
    rcases hp with ⟨_, rfl, _⟩ | ⟨ys, el, _, rfl, _⟩
    · exact fun _ _ => rfl
    · exact fun i hi => Go.RowKit.Below.heap_alloc _ _ _ hi
  have hpid : ∀ q, p = some q → q = (w.heap.size, 0) ∧ w.heap.size < w'.heap.size := by
    intro q hq
    rcases hp with ⟨h, _, _⟩ | ⟨ys, el, h, h2, _⟩
    · rw [h] at hq; cases hq
    · rw [h] at hq; cases hq; exact ⟨rfl, by rw [h2]; simp⟩
  have hget : ∀ j (bj : Blk), (st.heap.set st.n (some b)).get j = some bj → (j = st.n ∧ bj = b) ∨ (j < st.n ∧ st.heap.get j = some bj) := by
    intro j bj hj
    rw [Tr.get_set] at hj
    by_cases e : st.n = j
    · rw [if_pos e] at hj; cases hj; exact .inl ⟨e.symm, rfl⟩
    · rw [if_neg e] at hj; exact .inr ⟨(hS.lt j bj hj).1, hj⟩
  have hold : ∀ (k : Nat) (q : Nat × Nat), (E.push p).m[k]? = some (some q) → (k < st.n ∧ E.m[k]? = some (some q)) ∨ (k = st.n ∧ q = (w.heap.size, 0) ∧ w.heap.size < w'.heap.size) := by
    intro k q hq
    rcases push_get E p k _ hq with ⟨h1, h2⟩ | ⟨h1, h2⟩
    · exact .inl ⟨by rw [← hS.n_eq]; exact h1, h2⟩
    · have := hpid q h2.symm; exact .inr ⟨by rw [h1, hS.n_eq], this.1, this.2⟩
  have hkeep : ∀ (k : Nat) (q : Option (Nat × Nat)), E.m[k]? = some q → (E.push p).m[k]? = some q := fun k q hq => by rw [push_old E p (List.getElem?_eq_some_iff.1 hq).1]; exact hq
  refine ⟨by simp [Env.push, hS.n_eq], hS.c_eq, hS.z_eq, hS.a_eq, hS.o_eq, hS.klt, ?_, ?_, ?_, ?_, ?_, ?_, ?_, ?_, ?_, ?_, hS.facts, ?_, ?_, hS.ext.mono hle⟩
  · rcases hp with ⟨_, rfl, _⟩ | ⟨ys, el, _, rfl, _⟩
    · exact hS.kept
    · exact hS.kept.alloc hS.klt' _
  · intro k q hq
    rcases hold k q hq with ⟨_, h⟩ | ⟨_, rfl, h⟩
    · have := hS.ids k q h; exact ⟨this.1, by omega⟩
    · exact ⟨fun hk => absurd (hS.klt' _ hk) (Nat.lt_irrefl _), h⟩
  · intro j bj hj
    rcases hget j bj hj with ⟨rfl, rfl⟩ | ⟨hlt, h⟩
    · exact ⟨Nat.lt_succ_self _, by rw [hfam]; exact Nat.lt_succ_self _⟩
    · have := hS.lt j bj h; exact ⟨Nat.lt_succ_of_lt this.1, Nat.lt_succ_of_lt this.2⟩
  · intro j bj hj
    rcases hget j bj hj with ⟨rfl, rfl⟩ | ⟨hlt, h⟩
    · rcases hp with ⟨hp, _, hcv, hok⟩ | ⟨ys, el, hp, hw, hb⟩
      · left; exact ⟨by rw [← hS.n_eq, push_new, hp], hcv, hok⟩
      · right
        refine ⟨w.heap.size, 0, ys, el, (0, 0), by rw [← hS.n_eq, push_new, hp], ?_, hb⟩
        rw [hw]; show (w.heap.push _)[w.heap.size]? = _; simp
    · rcases hS.blks j bj h with h0 | ⟨id, sh, c, e, fr, hm, hh, hr⟩
      · exact .inl ⟨hkeep _ _ h0.1, h0.2.1, fun i v hv => (h0.2.2 i v hv).mono hle⟩
      · exact .inr ⟨id, sh, c, e, fr, hkeep _ _ hm, by rw [hsame _ (hS.ids j _ hm).2]; exact hh, hr.mono hle⟩
  · intro k1 k2 b1 b2 id1 sh1 id2 sh2 h1 h2 m1 m2 hf
    rcases hget k1 b1 h1 with ⟨e1, f1⟩ | ⟨e1, f1⟩ <;> rcases hget k2 b2 h2 with ⟨e2, f2⟩ | ⟨e2, f2⟩
    · subst f1; subst f2; exact absurd rfl hf
    · rcases hold k1 _ m1 with ⟨h, _⟩ | ⟨_, h, _⟩
      · omega
      · rcases hold k2 _ m2 with ⟨_, h'⟩ | ⟨h', _⟩
        · have := (hS.ids k2 _ h').2; simp at h this; omega
        · omega
    · rcases hold k2 _ m2 with ⟨h, _⟩ | ⟨_, h, _⟩
      · omega
      · rcases hold k1 _ m1 with ⟨_, h'⟩ | ⟨h', _⟩
        · have := (hS.ids k1 _ h').2; simp at h this; omega
        · omega
    · rcases hold k1 _ m1 with ⟨_, m1⟩ | ⟨h, _⟩
      · rcases hold k2 _ m2 with ⟨_, m2⟩ | ⟨h, _⟩
        · exact hS.fams k1 k2 b1 b2 id1 sh1 id2 sh2 f1 f2 m1 m2 hf
        · omega
      · omega
  · intro f l hl; exact Nat.lt_succ_of_lt (hS.livelt f l hl)
  · intro j bj hj k' b2 hk' hf
    have hnew : ∀ i (bi : Blk), st.heap.get i = some bi → bi.fam ≠ st.n := fun i bi hi e => by have := (hS.lt i bi hi).2; omega
    rcases hget j bj hj with ⟨e1, f1⟩ | ⟨e1, f1⟩ <;> rcases hget k' b2 hk' with ⟨e2, f2⟩ | ⟨e2, f2⟩
    · subst e1 e2 f1
      unfold famOf
      rw [hfam]
      show st.n ∈ (Option.rec [st.n] (fun l => l) (st.live.get st.n) : List Nat)
      rcases hl : st.live.get st.n with _ | l
      · simp
      · exact absurd (hS.livelt _ _ hl) (Nat.lt_irrefl _)
    · subst f1; exact absurd (hf.trans hfam) (hnew k' b2 f2)
    · subst f2; exact absurd (hf.symm.trans hfam) (hnew j bj f1)
    · exact hS.lives j bj f1 k' b2 f2 hf
  · intro j o ho
    obtain ⟨h1, h2⟩ := hS.objs j o ho
    refine ⟨Nat.lt_succ_of_lt h1, ?_⟩
    rcases h2 with h2 | ⟨id, ob, g1, g2, g3⟩
    · exact .inl (hkeep _ _ h2)
    · exact .inr ⟨id, ob, hkeep _ _ g1, by rw [hsame _ (hS.ids j _ g1).2]; exact g2, g3.mono hle⟩
  · intro k1 k2 o1 o2 q h1 h2 m1 m2
    have l1 := (hS.objs k1 o1 h1).1
    have l2 := (hS.objs k2 o2 h2).1
    rw [push_old E p (by rw [hS.n_eq]; exact l1)] at m1
    rw [push_old E p (by rw [hS.n_eq]; exact l2)] at m2
    exact hS.oinj k1 k2 o1 o2 q h1 h2 m1 m2
  · intro j o ho
    show (st.heap.set st.n (some b)).get j = none
    have := (hS.objs j o ho).1
    rw [Tr.get_set_other _ _ (by omega)]
    exact hS.apart j o ho
  · intro j bj q hj hq
    rcases hget j bj hj with ⟨rfl, rfl⟩ | ⟨hlt, h⟩
    · rw [hfam]; exact ⟨q, hq⟩
    · rw [push_old E p (by rw [hS.n_eq]; exact hlt)] at hq
      obtain ⟨q', hq'⟩ := hS.famh j bj q h hq
      exact ⟨q', hkeep _ _ hq'⟩
  · intro f l hl
    obtain ⟨⟨q, hq⟩, h2⟩ := hS.liveh f l hl
    exact ⟨⟨q, hkeep _ _ hq⟩, fun j hj => let ⟨q, hq⟩ := h2 j hj; ⟨q, hkeep _ _ hq⟩⟩
end
end Go.Sy
/-! Memory: what comes there later; objects; capacities. -/
namespace Go.Sy
section
variable {X : Tabs} {K : Nat → Prop} {w0 : World} {E : Env} {st : St} {w : World} {Θ : Pred} {R : List Back}

theorem withF_heap (st : St) (f : List T) : (st.withF f).heap = st.heap := by obtain ⟨n, nc, h, l, o, s, g, nz, na, no, lv⟩ := st; rfl
theorem withF_objs (st : St) (f : List T) : (st.withF f).x.objs = st.x.objs := by obtain ⟨n, nc, h, l, o, s, g, nz, na, no, lv⟩ := st; rfl
theorem withF_live (st : St) (f : List T) : (st.withF f).live = st.live := by obtain ⟨n, nc, h, l, o, s, g, nz, na, no, lv⟩ := st; rfl
theorem withF_facts (st : St) (f : List T) : (st.withF f).facts = f := by obtain ⟨n, nc, h, l, o, s, g, nz, na, no, lv⟩ := st; rfl
theorem withF_withF (st : St) (f g : List T) : (st.withF f).withF g = st.withF g := by obtain ⟨n, nc, h, l, o, s, g', nz, na, no, lv⟩ := st; rfl
theorem StRel.withF (hS : StRel X K w0 E st w) {f : List T} (hf : FOK E.va f) : StRel X K w0 E (st.withF f) w := by
  obtain ⟨n, nc, h, l, o, s, g, nz, na, no, lv⟩ := st
  exact ⟨hS.n_eq, hS.c_eq, hS.z_eq, hS.a_eq, hS.o_eq, hS.klt, hS.kept, hS.ids, hS.lt, hS.blks, hS.fams, hS.livelt, hS.lives, hS.objs, hS.oinj, hS.apart, hf, hS.famh, hS.liveh, hS.ext⟩
theorem hp_withF (E : Env) (st : St) (f : List T) : HP E E st (st.withF f) := fun k h => ⟨h, by rw [withF_heap], by rw [withF_objs], by rw [withF_live]⟩

/-- A number's capacity. -/
def Env.cap (E : Env) (c : Nat) : Env := { E with caps := E.caps ++ [c] }
theorem Env.le_cap (E : Env) (c : Nat) : E.Le (E.cap c) :=
  ⟨fun _ _ h => h, fun k p h => by show (E.caps ++ [c])[k]? = _; rw [List.getElem?_append_left (List.getElem?_eq_some_iff.1 h).1]; exact h, .refl _, fun _ _ h => h, fun k h => ⟨none, h, fun _ e => by cases e⟩⟩
theorem cap_new (E : Env) (c : Nat) : (E.cap c).caps[E.caps.length]? = some c := by show (E.caps ++ [c])[E.caps.length]? = _; simp
theorem StRel.newCap (hS : StRel X K w0 E st w) (c : Nat) : StRel X K w0 (E.cap c) ⟨st.n, Nat.succ st.nc, st.heap, st.live, st.x⟩ w := by
  have hle := E.le_cap c
  refine ⟨hS.n_eq, by simp [Env.cap, hS.c_eq], hS.z_eq, hS.a_eq, hS.o_eq, hS.klt, hS.kept, hS.ids, hS.lt, ?_, hS.fams, hS.livelt, hS.lives, ?_, hS.oinj, hS.apart, hS.facts, hS.famh, hS.liveh, hS.ext.mono hle⟩
  · intro k b hk
    rcases hS.blks k b hk with h | ⟨id, sh, cs, el, fr, hm, hh, hr⟩
    · exact .inl ⟨h.1, h.2.1, fun i v hv => (h.2.2 i v hv).mono hle⟩
    · exact .inr ⟨id, sh, cs, el, fr, hm, hh, hr.mono hle⟩
  · intro k o hk
    obtain ⟨h1, h2⟩ := hS.objs k o hk
    exact ⟨h1, h2.imp id fun ⟨a, b, c, d, e⟩ => ⟨a, b, c, d, e.mono hle⟩⟩
theorem hp_cap (E : Env) (c : Nat) (st : St) : HP E (E.cap c) st ⟨st.n, Nat.succ st.nc, st.heap, st.live, st.x⟩ := fun _ h => ⟨h, rfl, rfl, rfl⟩

/-- An unknown capacity has at least so many places. -/
theorem knownU_ok (hS : StRel X K w0 E st w) {es i sub n c : Nat} {a : Option AAddr} (hc : E.caps[i]? = some c) (hn : n + sub ≤ c) : knownU es i sub n st a + sub ≤ c := by
  unfold knownU
  split
  · rename_i k off
    cases hb : st.heap.get k with
    | none => exact hn
    | some b =>
      show bif_ _ _ n + sub ≤ c
      cases hcond : (Nat.beq b.cv (Nat.succ i) && (Nat.beq b.es es && (Nat.beq off (Nat.mul sub es) && Nat.blt 0 es))) with
      | false => exact hn
      | true =>
        simp only [Bool.and_eq_true, beq_iff, blt_iff, decide_eq_true_eq] at hcond
        obtain ⟨h1, h2, h3, h4⟩ := hcond
        rcases hS.blks k b hb with h | ⟨id, sh, cs, el, fr, hm, hh, hr⟩
        · have := h.2.1; omega
        · obtain ⟨c', g1, g2, g3⟩ := hr.cap i h1
          rw [hc] at g1; cases g1
          rw [bif_true, natSub, natDiv]
          have h5 : b.sz / es ≤ c := by
            rw [← h2]
            refine Nat.div_le_of_le_mul ?_
            rw [Nat.mul_comm]; exact g3
          omega
  · exact hn

/-! ### What comes there -/
def Env.set (E : Env) (k : Nat) (p : Nat × Nat) : Env := { E with m := E.m.set k (some p) }
theorem Env.le_set {E : Env} {k id : Nat} (hk : E.m[k]? = some none) : E.Le (E.set k (id, 0)) := by
  have hlt := (List.getElem?_eq_some_iff.1 hk).1
  refine ⟨fun j p h => ?_, fun _ _ h => h, .refl _, fun _ _ h => h, fun j h => ?_⟩
  · show (E.m.set k _)[j]? = _
    rw [List.getElem?_set_ne (fun e => by subst e; rw [hk] at h; cases h)]; exact h
  · by_cases e : k = j
    · subst e; exact ⟨some (id, 0), by show (E.m.set k _)[k]? = _; simp [hlt], fun p e => by cases e; rfl⟩
    · exact ⟨none, by show (E.m.set k _)[j]? = _; rw [List.getElem?_set_ne e]; exact h, fun _ e => by cases e⟩
theorem set_same {E : Env} {k : Nat} {p : Nat × Nat} (hk : k < E.m.length) : (E.set k p).m[k]? = some (some p) := by show (E.m.set k _)[k]? = _; simp [hk]
theorem set_other {E : Env} {k j : Nat} {p : Nat × Nat} (h : j ≠ k) : (E.set k p).m[j]? = E.m[j]? := by show (E.m.set k _)[j]? = _; rw [List.getElem?_set_ne (fun e => h e.symm)]
/-- It comes to be. -/
theorem StRel.fill (hS : StRel X K w0 E st w) {k : Nat} (hk : E.m[k]? = some none) (ob : Obj)
    (hb : ∀ b, st.heap.get k = some b → b.fam = k ∧ ∃ ys el, ob = .cells ys el (0, 0) ∧ BlkRel (E.set k (w.heap.size, 0)) b 0 ys (0, 0)) (ho : ∀ o, st.x.objs.get k = some o → ObRel X (E.set k (w.heap.size, 0)) o ob) :
    StRel X K w0 (E.set k (w.heap.size, 0)) st (w.alloc ob) := by
  have hlt := (List.getElem?_eq_some_iff.1 hk).1
  have hle : E.Le (E.set k (w.heap.size, 0)) := E.le_set hk
  have hnew : (w.alloc ob).heap[w.heap.size]? = some ob := World.alloc_heap_new _ _
  have hold : ∀ i, i < w.heap.size → (w.alloc ob).heap[i]? = w.heap[i]? := fun i hi => Go.RowKit.Below.heap_alloc _ _ _ hi
  have hsz : (w.alloc ob).heap.size = w.heap.size + 1 := by simp
  have getm : ∀ (j : Nat) (p : Nat × Nat), (E.set k (w.heap.size, 0)).m[j]? = some (some p) → (j = k ∧ p = (w.heap.size, 0)) ∨ (j ≠ k ∧ E.m[j]? = some (some p)) := by
    intro j p hp
    by_cases e : j = k
    · subst e; rw [set_same hlt] at hp; cases hp; exact .inl ⟨rfl, rfl⟩
    · rw [set_other e] at hp; exact .inr ⟨e, hp⟩
  have nok : ∀ (j : Nat) (p : Nat × Nat), E.m[j]? = some (some p) → j ≠ k := fun j p hp e => by subst e; rw [hk] at hp; cases hp
  refine ⟨by simp [Env.set, hS.n_eq], hS.c_eq, hS.z_eq, hS.a_eq, hS.o_eq, hS.klt, hS.kept.alloc hS.klt' _, ?_, hS.lt, ?_, ?_, hS.livelt, hS.lives, ?_, ?_, hS.apart, hS.facts, ?_, ?_, hS.ext.mono hle⟩
  · intro j p hp
    rcases getm j p hp with ⟨_, rfl⟩ | ⟨_, h⟩
    · exact ⟨fun hK => absurd (hS.klt' _ hK) (Nat.lt_irrefl _), by rw [hsz]; exact Nat.lt_succ_self _⟩
    · have := hS.ids j p h; exact ⟨this.1, by rw [hsz]; omega⟩
  · intro j b hj
    by_cases e : j = k
    · subst e
      obtain ⟨h1, ys, el, rfl, h2⟩ := hb b hj
      exact .inr ⟨w.heap.size, 0, ys, el, (0, 0), set_same hlt, hnew, h2⟩
    · rcases hS.blks j b hj with h | ⟨id, sh, cs, el, fr, hm, hh, hr⟩
      · exact .inl ⟨by rw [set_other e]; exact h.1, h.2.1, fun i v hv => (h.2.2 i v hv).mono hle⟩
      · exact .inr ⟨id, sh, cs, el, fr, by rw [set_other e]; exact hm, by rw [hold _ (hS.ids j _ hm).2]; exact hh, hr.mono hle⟩
  · intro k1 k2 b1 b2 id1 sh1 id2 sh2 h1 h2 m1 m2 hf
    rcases getm k1 _ m1 with ⟨rfl, e1⟩ | ⟨n1, m1⟩ <;> rcases getm k2 _ m2 with ⟨e2, e3⟩ | ⟨n2, m2⟩
    · subst e2; rw [h1] at h2; cases h2; exact absurd rfl hf
    · cases e1
      have := (hS.ids k2 _ m2).2
      simp only at this; omega
    · cases e3
      have := (hS.ids k1 _ m1).2
      simp only at this; omega
    · exact hS.fams k1 k2 b1 b2 id1 sh1 id2 sh2 h1 h2 m1 m2 hf
  · intro j o hj
    obtain ⟨h1, h2⟩ := hS.objs j o hj
    refine ⟨h1, ?_⟩
    by_cases e : j = k
    · subst e
      exact .inr ⟨w.heap.size, ob, set_same hlt, hnew, ho o hj⟩
    · rcases h2 with h2 | ⟨id, ob', g1, g2, g3⟩
      · exact .inl (by rw [set_other e]; exact h2)
      · exact .inr ⟨id, ob', by rw [set_other e]; exact g1, by rw [hold _ (hS.ids j _ g1).2]; exact g2, g3.mono hle⟩
  · intro k1 k2 o1 o2 p h1 h2 m1 m2
    rcases getm k1 _ m1 with ⟨rfl, e1⟩ | ⟨n1, m1⟩ <;> rcases getm k2 _ m2 with ⟨e2, e3⟩ | ⟨n2, m2⟩
    · exact e2.symm
    · subst e1
      have := (hS.ids k2 _ m2).2
      simp only at this; omega
    · subst e3
      have := (hS.ids k1 _ m1).2
      simp only at this; omega
    · exact hS.oinj k1 k2 o1 o2 p h1 h2 m1 m2
  · intro j b p hj hp
    rcases getm j p hp with ⟨rfl, rfl⟩ | ⟨n1, m1⟩
    · rw [(hb b hj).1]; exact ⟨_, hp⟩
    · obtain ⟨q, hq⟩ := hS.famh j b p hj m1
      exact ⟨q, hle.m _ _ hq⟩
  · intro f l hl
    obtain ⟨⟨q, hq⟩, h2⟩ := hS.liveh f l hl
    exact ⟨⟨q, hle.m _ _ hq⟩, fun j hj => let ⟨q, hq⟩ := h2 j hj; ⟨q, hle.m _ _ hq⟩⟩

/-! ### Objects -/
noncomputable def St.obj (st : St) (o : Ob) : St := ⟨Nat.succ st.n, st.nc, st.heap, st.live, ⟨st.x.objs.set st.n (some o), st.x.sh, st.x.facts, st.x.nz, st.x.na, st.x.no, st.x.nm⟩⟩
noncomputable def St.setO (st : St) (r : Nat) (o : Ob) : St := ⟨st.n, st.nc, st.heap, st.live, ⟨st.x.objs.set r (some o), st.x.sh, st.x.facts, st.x.nz, st.x.na, st.x.no, st.x.nm⟩⟩
theorem newO_eq (st : St) (o : Ob) (k : Nat → St → VC) : newO st o k = k st.n (st.obj o) := by
  obtain ⟨n, nc, h, l, ob, s, g, nz, na, no, lv⟩ := st
  show ob.setK n (some o) _ = _
  rw [Tr.setK_eq, natK_eq]; rfl
theorem withO_eq (st : St) (r : Nat) (o : Ob) (k : St → VC) : withO st r o k = k (st.setO r o) := by
  obtain ⟨n, nc, h, l, ob, s, g, nz, na, no, lv⟩ := st
  show ob.setK r (some o) _ = _
  rw [Tr.setK_eq]; rfl
theorem StRel.newObj (hS : StRel X K w0 E st w) (o : Ob) : StRel X K w0 (E.push none) (st.obj o) w := by
  have hle := E.le_push none
  have hkeep : ∀ (k : Nat) (q : Option (Nat × Nat)), E.m[k]? = some q → (E.push none).m[k]? = some q := fun k q hq => by rw [push_old E none (List.getElem?_eq_some_iff.1 hq).1]; exact hq
  have hold : ∀ (k : Nat) (q : Nat × Nat), (E.push none).m[k]? = some (some q) → E.m[k]? = some (some q) := by
    intro k q hq
    rcases push_get E none k _ hq with ⟨_, h⟩ | ⟨_, h⟩
    · exact h
    · cases h
  have oget : ∀ j oj, (st.x.objs.set st.n (some o)).get j = some oj → (j = st.n ∧ oj = o) ∨ (j < st.n ∧ st.x.objs.get j = some oj) := by
    intro j oj hj
    rw [Tr.get_set] at hj
    by_cases e : st.n = j
    · rw [if_pos e] at hj; cases hj; exact .inl ⟨e.symm, rfl⟩
    · rw [if_neg e] at hj; exact .inr ⟨(hS.objs j oj hj).1, hj⟩
  refine ⟨by simp [Env.push, St.obj, hS.n_eq], hS.c_eq, hS.z_eq, hS.a_eq, hS.o_eq, hS.klt, hS.kept, fun k q hq => hS.ids k q (hold k q hq), fun k b hb => ?_, fun k b hb => ?_, fun k1 k2 b1 b2 id1 sh1 id2 sh2 h1 h2 m1 m2 => hS.fams k1 k2 b1 b2 id1 sh1 id2 sh2 h1 h2 (hold _ _ m1) (hold _ _ m2),
    fun f l hl => Nat.lt_succ_of_lt (hS.livelt f l hl), hS.lives, fun j oj hj => ?_, fun k1 k2 o1 o2 p h1 h2 m1 m2 => ?_, fun k oj hk => ?_, hS.facts, fun j b q hj hq => ?_, fun f l hl => ?_, hS.ext.mono hle⟩
  · have := hS.lt k b hb; exact ⟨Nat.lt_succ_of_lt this.1, Nat.lt_succ_of_lt this.2⟩
  · rcases hS.blks k b hb with h | ⟨id, sh, cs, el, fr, hm, hh, hr⟩
    · exact .inl ⟨hkeep _ _ h.1, h.2.1, fun i v hv => (h.2.2 i v hv).mono hle⟩
    · exact .inr ⟨id, sh, cs, el, fr, hkeep _ _ hm, hh, hr.mono hle⟩
  · rcases oget j oj hj with ⟨rfl, rfl⟩ | ⟨hlt, h⟩
    · exact ⟨Nat.lt_succ_self _, .inl (by rw [← hS.n_eq]; exact push_new E none)⟩
    · refine ⟨Nat.lt_succ_of_lt hlt, ?_⟩
      rcases (hS.objs j oj h).2 with h2 | ⟨id, ob, g1, g2, g3⟩
      · exact .inl (hkeep _ _ h2)
      · exact .inr ⟨id, ob, hkeep _ _ g1, g2, g3.mono hle⟩
  · rcases oget k1 o1 h1 with ⟨rfl, _⟩ | ⟨l1, h1⟩
    · have := push_new E none; rw [hS.n_eq] at this; rw [this] at m1; cases m1
    · rcases oget k2 o2 h2 with ⟨rfl, _⟩ | ⟨l2, h2⟩
      · have := push_new E none; rw [hS.n_eq] at this; rw [this] at m2; cases m2
      · exact hS.oinj k1 k2 o1 o2 p h1 h2 (hold _ _ m1) (hold _ _ m2)
  · rcases oget k oj hk with ⟨rfl, _⟩ | ⟨_, h⟩
    · show st.heap.get st.n = none
      cases hb : st.heap.get st.n with
      | none => rfl
      | some b => exact absurd (hS.lt _ b hb).1 (Nat.lt_irrefl _)
    · exact hS.apart k oj h
  · obtain ⟨q', hq'⟩ := hS.famh j b q hj (hold _ _ hq)
    exact ⟨q', hkeep _ _ hq'⟩
  · obtain ⟨⟨q, hq⟩, h2⟩ := hS.liveh f l hl
    exact ⟨⟨q, hkeep _ _ hq⟩, fun j hj => let ⟨q, hq⟩ := h2 j hj; ⟨q, hkeep _ _ hq⟩⟩
theorem hp_obj (hS : StRel X K w0 E st w) (o : Ob) : HP E (E.push none) st (st.obj o) :=
  hp_push E none hS.n_eq (fun _ _ => rfl) (fun k hk => by show (st.x.objs.set st.n (some o)).get k = _; rw [Tr.get_set_other _ _ (by omega)]) rfl
/-- A new one, and it is there. -/
theorem StRel.newObjAt (hS : StRel X K w0 E st w) (o : Ob) (ob : Obj) (ho : ObRel X ((E.push none).set st.n (w.heap.size, 0)) o ob) :
    StRel X K w0 ((E.push none).set st.n (w.heap.size, 0)) (st.obj o) (w.alloc ob) ∧ HP E ((E.push none).set st.n (w.heap.size, 0)) st (st.obj o) ∧ E.Le ((E.push none).set st.n (w.heap.size, 0)) ∧ ((E.push none).set st.n (w.heap.size, 0)).m[st.n]? = some (some (w.heap.size, 0)) := by
  have hn : (E.push none).m[st.n]? = some none := by rw [← hS.n_eq]; exact push_new E none
  have hlt := (List.getElem?_eq_some_iff.1 hn).1
  have hh : st.heap.get st.n = none := by
    cases hb : st.heap.get st.n with
    | none => rfl
    | some b => exact absurd (hS.lt _ b hb).1 (Nat.lt_irrefl _)
  refine ⟨(hS.newObj o).fill hn ob (fun b hb => ?_) (fun o' ho' => ?_), fun k hk => ?_, (E.le_push none).trans (Env.le_set hn), set_same hlt⟩
  · have : st.heap.get st.n = some b := hb
    rw [hh] at this; cases this
  · have : (st.x.objs.set st.n (some o)).get st.n = some o' := ho'
    rw [Tr.get_set_same] at this; cases this; exact ho
  · have h1 := (List.getElem?_eq_some_iff.1 hk).1
    obtain ⟨a, b, c, d⟩ := hp_obj hS o k hk
    exact ⟨by rw [set_other (by rw [hS.n_eq] at h1; omega)]; exact a, b, c, d⟩

/-- An object changes. -/
theorem StRel.putObj (hS : StRel X K w0 E st w) {r id : Nat} {o o' : Ob} {ob ob' : Obj} (hr : st.x.objs.get r = some o) (hm : E.m[r]? = some (some (id, 0))) (hh : w.heap[id]? = some ob) (hob : ObRel X E o ob) (ho : ObRel X E o' ob') :
    StRel X K w0 E (st.setO r o') (w.putObj id ob') ∧ HP E E st (st.setO r o') := by
  have hid := hS.ids r _ hm
  have oget : ∀ j oj, (st.x.objs.set r (some o')).get j = some oj → (j = r ∧ oj = o') ∨ (j ≠ r ∧ st.x.objs.get j = some oj) := by
    intro j oj hj
    rw [Tr.get_set] at hj
    by_cases e : r = j
    · rw [if_pos e] at hj; cases hj; exact .inl ⟨e.symm, rfl⟩
    · rw [if_neg e] at hj; exact .inr ⟨fun h => e h.symm, hj⟩
  have ex : ∀ j oj, (st.x.objs.set r (some o')).get j = some oj → ∃ q, st.x.objs.get j = some q := by
    intro j oj hj
    rcases oget j oj hj with ⟨rfl, _⟩ | ⟨_, h⟩
    · exact ⟨_, hr⟩
    · exact ⟨_, h⟩
  refine ⟨⟨hS.n_eq, hS.c_eq, hS.z_eq, hS.a_eq, hS.o_eq, hS.klt, ?_, fun k q hq => by rw [World.putObj_size]; exact hS.ids k q hq, hS.lt, fun k b hb => ?_, hS.fams, hS.livelt, hS.lives, fun j oj hj => ?_, fun k1 k2 o1 o2 p h1 h2 m1 m2 => ?_, fun k oj hk => ?_, hS.facts, hS.famh, hS.liveh, hS.ext⟩, fun k hk => ⟨hk, rfl, ?_, rfl⟩⟩
  · exact hS.kept.trans ⟨rfl, rfl, rfl, by rw [World.putObj_size]; exact Nat.le_refl _, fun k hk => World.putObj_heap_other (fun e => hid.1 (e ▸ hk))⟩
  · rcases hS.blks k b hb with h | ⟨id2, sh, cs, el, fr, hm2, hh2, hr2⟩
    · exact .inl h
    · refine .inr ⟨id2, sh, cs, el, fr, hm2, ?_, hr2⟩
      rw [World.putObj_heap_other]; exact hh2
      rintro rfl
      rw [hh] at hh2; cases hh2
      exact hob.notCells
  · rcases oget j oj hj with ⟨rfl, rfl⟩ | ⟨hne, h⟩
    · exact ⟨(hS.objs j o hr).1, .inr ⟨id, ob', hm, World.putObj_heap_same hid.2, ho⟩⟩
    · obtain ⟨h1, h2⟩ := hS.objs j oj h
      refine ⟨h1, h2.imp (fun h => h) fun ⟨id2, ob2, g1, g2, g3⟩ => ⟨id2, ob2, g1, ?_, g3⟩⟩
      rw [World.putObj_heap_other]; exact g2
      rintro rfl
      exact hne (hS.oinj j r oj o _ h hr g1 hm)
  · obtain ⟨q1, e1⟩ := ex k1 o1 h1
    obtain ⟨q2, e2⟩ := ex k2 o2 h2
    exact hS.oinj k1 k2 q1 q2 p e1 e2 m1 m2
  · obtain ⟨q, e⟩ := ex k oj hk
    exact hS.apart k q e
  · show (st.x.objs.set r (some o')).get k = _
    rw [Tr.get_set_other]
    rintro rfl
    rw [hm] at hk; cases hk

theorem StRel.drew (hS : StRel X K w0 E st w) : StRel X K w0 E st w.drew :=
  ⟨hS.n_eq, hS.c_eq, hS.z_eq, hS.a_eq, hS.o_eq, hS.klt, ⟨hS.kept.os, hS.kept.tape, hS.kept.output, hS.kept.size, hS.kept.block⟩, hS.ids, hS.lt, hS.blks, hS.fams, hS.livelt, hS.lives, hS.objs, hS.oinj, hS.apart, hS.facts, hS.famh, hS.liveh, hS.ext⟩
theorem StRel.drawn (hS : StRel X K w0 E st w) (n : Nat) : StRel X K w0 E st { w with drawn := n } :=
  ⟨hS.n_eq, hS.c_eq, hS.z_eq, hS.a_eq, hS.o_eq, hS.klt, ⟨hS.kept.os, hS.kept.tape, hS.kept.output, hS.kept.size, hS.kept.block⟩, hS.ids, hS.lt, hS.blks, hS.fams, hS.livelt, hS.lives, hS.objs, hS.oinj, hS.apart, hS.facts, hS.famh, hS.liveh, hS.ext⟩
end
end Go.Sy
