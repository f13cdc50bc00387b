import Derived.Test.YtjpohnhgajjndajGreatDoorSyA
import Derived.Laws.Entries
/-! Whole numbers: the quick functions are the model's. -/
namespace Go.Sy

theorem ieq_eq (a b : Int) : ieq a b = decide (a = b) := by
  cases a <;> cases b
  · rename_i a b; show Nat.beq a b = _; rw [beq_iff]; exact decide_eq_decide.2 ⟨fun h => by rw [h], fun h => by injection h⟩
  · show false = _; symm; rw [decide_eq_false_iff_not]; intro h; cases h
  · show false = _; symm; rw [decide_eq_false_iff_not]; intro h; cases h
  · rename_i a b; show Nat.beq a b = _; rw [beq_iff]; exact decide_eq_decide.2 ⟨fun h => by rw [h], fun h => by injection h⟩
theorem ilt_eq (a b : Int) : ilt a b = decide (a < b) := by
  cases a with
  | ofNat a => cases b with
    | ofNat b => show Nat.blt a b = _; rw [blt_iff]; congr 1; simp
    | negSucc b => show false = _; symm; rw [decide_eq_false_iff_not]; have : Int.ofNat a = (a : Int) := rfl; rw [this]; omega
  | negSucc a => cases b with
    | ofNat b => show true = _; symm; rw [decide_eq_true_eq]; have : Int.ofNat b = (b : Int) := rfl; rw [this]; omega
    | negSucc b => show Nat.blt b a = _; rw [blt_iff]; congr 1; apply propext; omega
theorem kbeq_eq {j k : IntKind} (h : kbeq j k = true) : j = k := by cases j <;> cases k <;> first | rfl | cases h
theorem kbeq_refl (k : IntKind) : kbeq k k = true := by cases k <;> rfl
theorem bbeq_eq (a b : Bool) : bbeq a b = decide (a = b) := by cases a <;> cases b <;> rfl
theorem bopEq_eq {a b : BinOp} (h : bopEq a b = true) : a = b := by
  have := Nat.eq_of_beq_eq_true h
  cases a <;> cases b <;> first | rfl | (simp [bopEq.num] at this)
theorem modOf_bits (k : IntKind) : modOf k = 2 ^ k.bits := by cases k <;> rfl
theorem bitsOf_eq (k : IntKind) : bitsOf k = k.bits := by cases k <;> rfl
theorem isS_eq (k : IntKind) : isS k = k.signed := by cases k <;> rfl
theorem modOf_pos (k : IntKind) : 0 < modOf k := by cases k <;> decide
theorem sgn_eq (k : IntKind) {u : Nat} (h : u < modOf k) : sgn k u = if u < halfOf k then (u : Int) else (u : Int) - modOf k := by
  unfold sgn sgnH
  rw [blt_iff]
  by_cases c : u < halfOf k
  · rw [decide_eq_true c, if_pos c]; rfl
  · rw [decide_eq_false c, if_neg c]
    show Int.negSucc (modOf k - 1 - u) = _
    omega
theorem wrap_eq (k : IntKind) {n : Int} {u : Nat} (hu : u < modOf k) (e : n % (modOf k : Int) = u) : k.wrap n = sgn k u := by
  rw [sgn_eq k hu]
  cases k <;> simp only [modOf, halfOf, IntKind.wrap, IntKind.bits, IntKind.signed, Bool.true_and, Bool.false_and, decide_eq_true_eq, ge_iff_le, Bool.false_eq_true, if_false] at * <;> (try split) <;> (try split) <;> omega
theorem emod_lt (k : IntKind) (n : Int) : ∃ u : Nat, u < modOf k ∧ n % (modOf k : Int) = u := by
  have hp := modOf_pos k
  have h1 := Int.emod_nonneg n (b := (modOf k : Int)) (by omega)
  have h2 := Int.emod_lt_of_pos n (b := (modOf k : Int)) (by omega)
  exact ⟨(n % (modOf k : Int)).toNat, by omega, by omega⟩
theorem sgn_mod (k : IntKind) {u : Nat} (h : u < modOf k) : sgn k u % (modOf k : Int) = u := by
  rw [sgn_eq k h]
  split
  · exact Int.emod_eq_of_lt (by omega) (by omega)
  · rw [Int.sub_emod_right]; exact Int.emod_eq_of_lt (by omega) (by omega)
theorem wrap_sgn (k : IntKind) {u : Nat} (h : u < modOf k) : k.wrap (sgn k u) = sgn k u := wrap_eq k h (sgn_mod k h)
theorem sgn_inj (k : IntKind) {u v : Nat} (h : u < modOf k) (h' : v < modOf k) (e : sgn k u = sgn k v) : u = v := by
  have a := sgn_mod k h
  have b := sgn_mod k h'
  rw [e] at a; omega
theorem sgn_wf (k : IntKind) {u : Nat} (h : u < modOf k) : (Lit.int k (sgn k u)).wf = true := by
  rw [sgn_eq k h]
  by_cases c : u < halfOf k
  · rw [if_pos c]
    cases k <;> simp only [modOf, halfOf, Lit.wf, IntKind.min, IntKind.max, IntKind.bits, IntKind.signed, Bool.and_eq_true, decide_eq_true_eq] at * <;> simp <;> omega
  · rw [if_neg c]
    cases k <;> simp only [modOf, halfOf, Lit.wf, IntKind.min, IntKind.max, IntKind.bits, IntKind.signed, Bool.and_eq_true, decide_eq_true_eq] at * <;> simp <;> omega
theorem wf_range {k : IntKind} {n : Int} (h : (Lit.int k n).wf = true) : minOf k ≤ n ∧ n ≤ maxOf k := by
  simp only [Lit.wf, Bool.and_eq_true, decide_eq_true_eq] at h
  cases k <;> simp only [IntKind.min, IntKind.max, IntKind.signed, IntKind.bits] at h <;> simp [minOf, maxOf] at h ⊢ <;> omega
theorem wrap_wf (k : IntKind) (n : Int) : (Lit.int k (k.wrap n)).wf = true := by
  obtain ⟨u, hu, e⟩ := emod_lt k n
  rw [wrap_eq k hu e]; exact sgn_wf k hu
theorem wf_wrap {k : IntKind} {n : Int} (h : (Lit.int k n).wf = true) : k.wrap n = n := by
  have := wf_range h
  cases k <;> simp only [minOf, maxOf] at this <;> simp only [IntKind.wrap, IntKind.signed, IntKind.bits] <;> simp at this ⊢ <;> omega
theorem sgn_nat (k : IntKind) {u : Nat} (h : u < halfOf k) : sgn k u = (u : Int) := by
  have : u < modOf k := by cases k <;> simp only [halfOf, modOf] at * <;> omega
  rw [sgn_eq k this, if_pos h]
theorem half_le (k : IntKind) : halfOf k ≤ modOf k := by cases k <;> decide
theorem toU_eq (m : Nat) (hm : 0 < m) (n : Int) : ((toU m n : Nat) : Int) = n % (m : Int) := by
  cases n with
  | ofNat a => show ((Nat.mod a m : Nat) : Int) = _; exact (Int.natCast_emod a m)
  | negSucc a =>
    show ((m - 1 - a % m : Nat) : Int) = _
    have h1 : a % m < m := Nat.mod_lt _ hm
    rw [Int.negSucc_emod a (by omega)]
    omega
theorem toU_lt (m : Nat) (hm : 0 < m) (n : Int) : toU m n < m := by
  have := toU_eq m hm n
  have h2 := Int.emod_lt_of_pos n (b := (m : Int)) (by omega)
  omega
theorem nmin_eq (a b : Nat) : nmin a b = min a b := by
  unfold nmin
  rw [ble_iff]
  by_cases c : a ≤ b
  · rw [decide_eq_true c, Nat.min_eq_left c]; rfl
  · rw [decide_eq_false c, Nat.min_eq_right (by omega)]; rfl

/-- What the language yields for two whole numbers; no comparison. -/
def zar (op : BinOp) (k : IntKind) (x y : Int) : Option Int :=
  match op with
  | .add => some (k.wrap (x + y))
  | .sub => some (k.wrap (x - y))
  | .mul => some (k.wrap (x * y))
  | .quo => if y = 0 then none else some (k.wrap (x.tdiv y))
  | .rem => if y = 0 then none else some (x.tmod y)
  | .and => some (k.wrap ((BitVec.ofInt k.bits x &&& BitVec.ofInt k.bits y).toNat : Int))
  | .or => some (k.wrap ((BitVec.ofInt k.bits x ||| BitVec.ofInt k.bits y).toNat : Int))
  | .xor => some (k.wrap ((BitVec.ofInt k.bits x ^^^ BitVec.ofInt k.bits y).toNat : Int))
  | .andNot => some (k.wrap ((BitVec.ofInt k.bits x &&& ~~~ BitVec.ofInt k.bits y).toNat : Int))
  | .shl => if y < 0 then none else some (k.wrap (x * 2 ^ (min y.toNat k.bits)))
  | .shr => if y < 0 then none else some (x.fdiv (2 ^ (min y.toNat k.bits)))
  | _ => none
def zcm (op : BinOp) (x y : Int) : Option Bool :=
  match op with
  | .eql => some (decide (x = y))
  | .neq => some (decide (x ≠ y))
  | .lss => some (decide (x < y))
  | .leq => some (decide (x ≤ y))
  | .gtr => some (decide (y < x))
  | .geq => some (decide (y ≤ x))
  | _ => none

section
variable {P : Program}
theorem zar_run {op : BinOp} {k k' : IntKind} {x y c : Int} (h : zar op k x y = some c) (hk : isShift op = true ∨ k = k') (t : TypeId) (w : World) : (Go.binOp op t (.int k x) (.int k' y)).run P w = .ok (.int k c) w := by
  cases op <;> simp only [zar, Option.some.injEq] at h <;> (try cases h)
  case quo =>
    obtain rfl := hk.resolve_left (by decide)
    split at h
    · cases h
    · rename_i hy; cases h; simp [Go.binOp, Op.intDiv, hy]
  case rem =>
    obtain rfl := hk.resolve_left (by decide)
    split at h
    · cases h
    · rename_i hy; cases h; simp [Go.binOp, Op.intDiv, hy]
  case shl =>
    split at h
    · cases h
    · rename_i hy; cases h; simp [Go.binOp, Op.shift, hy]
  case shr =>
    split at h
    · cases h
    · rename_i hy; cases h; simp [Go.binOp, Op.shift, hy]
  all_goals obtain rfl := hk.resolve_left (by decide)
  all_goals simp [Go.binOp, Op.intArith, Op.intBits]
theorem zcm_run {op : BinOp} {k : IntKind} {x y : Int} {r : Bool} (h : zcm op x y = some r) (t : TypeId) (w : World) : (Go.binOp op t (.int k x) (.int k y)).run P w = .ok (.bool r) w := by
  cases op <;> simp only [zcm, Option.some.injEq] at h <;> (try cases h) <;> simp [Go.binOp, Op.intCmp]
  case eql => rw [Bool.eq_iff_iff]; simp
  case neq => rfl
end

theorem tmod_wf {k : IntKind} {x y : Int} (hx : (Lit.int k x).wf = true) : (Lit.int k (x.tmod y)).wf = true := by
  have hx := wf_range hx
  have h1 : (x.tmod y).natAbs ≤ x.natAbs := by
    rw [Int.natAbs_tmod]; exact Nat.mod_le _ _
  have h2 : 0 ≤ x → 0 ≤ x.tmod y := fun h => Int.tmod_nonneg _ h
  have h3 : x ≤ 0 → x.tmod y ≤ 0 := fun h => by
    have := Int.tmod_nonneg y (a := -x) (by omega)
    rw [Int.neg_tmod] at this; omega
  simp only [Lit.wf, Bool.and_eq_true, decide_eq_true_eq]
  cases k <;> simp only [minOf, maxOf] at hx <;> simp only [IntKind.min, IntKind.max, IntKind.signed, IntKind.bits] <;> simp at hx ⊢ <;> omega
theorem fdiv_wf {k : IntKind} {x : Int} (hx : (Lit.int k x).wf = true) (n : Nat) : (Lit.int k (x.fdiv (2 ^ n))).wf = true := by
  have hx := wf_range hx
  have hp : (0 : Int) < 2 ^ n := Int.pow_pos (by decide)
  have e : x.fdiv (2 ^ n) = x / (2 ^ n) := Int.fdiv_eq_ediv_of_nonneg _ (by omega)
  rw [e]
  have h2 : 0 ≤ x → 0 ≤ x / 2 ^ n ∧ x / 2 ^ n ≤ x := fun h => ⟨Int.ediv_nonneg h (by omega), Int.ediv_le_self _ h⟩
  have h3 : x < 0 → x ≤ x / 2 ^ n ∧ x / 2 ^ n < 0 := fun h => ⟨by
    have := Int.le_ediv_of_mul_le (a := x) (b := x) (c := 2 ^ n) hp (by
      have : x * 2 ^ n ≤ x * 1 := Int.mul_le_mul_of_nonpos_left (by omega) (by omega)
      omega)
    exact this, Int.ediv_neg_of_neg_of_pos h hp⟩
  simp only [Lit.wf, Bool.and_eq_true, decide_eq_true_eq]
  cases k <;> simp only [minOf, maxOf] at hx <;> simp only [IntKind.min, IntKind.max, IntKind.signed, IntKind.bits] <;> simp at hx ⊢ <;> omega
theorem zar_wf {op : BinOp} {k : IntKind} {x y c : Int} (h : zar op k x y = some c) (hx : (Lit.int k x).wf = true) : (Lit.int k c).wf = true := by
  cases op <;> simp only [zar, Option.some.injEq] at h <;> (try cases h) <;> (try exact wrap_wf _ _)
  case quo => split at h <;> cases h; exact wrap_wf _ _
  case rem => split at h <;> cases h; exact tmod_wf hx
  case shl => split at h <;> cases h; exact wrap_wf _ _
  case shr => split at h <;> cases h; exact fdiv_wf hx _

/-! ### Bits -/
theorem ofInt_sgn (k : IntKind) {u : Nat} (h : u < modOf k) : (BitVec.ofInt k.bits (sgn k u)).toNat = u := by
  rw [BitVec.toNat_ofInt]
  have h1 := sgn_mod k h
  rw [modOf_bits] at h1
  omega
theorem wrap_nat (k : IntKind) {u : Nat} (h : u < modOf k) : k.wrap (u : Int) = sgn k u := wrap_eq k h (Int.emod_eq_of_lt (by omega) (by omega))
theorem land_lt (k : IntKind) {a b : Nat} (h : a < modOf k) : Nat.land a b < modOf k := Nat.lt_of_le_of_lt Nat.and_le_left h
theorem lor_lt (k : IntKind) {a b : Nat} (h : a < modOf k) (h' : b < modOf k) : Nat.lor a b < modOf k := by rw [modOf_bits] at *; exact Nat.or_lt_two_pow h h'
theorem xor_lt (k : IntKind) {a b : Nat} (h : a < modOf k) (h' : b < modOf k) : Nat.xor a b < modOf k := by rw [modOf_bits] at *; exact Nat.xor_lt_two_pow h h'
theorem xor_ones (k : IntKind) {b : Nat} (h : b < modOf k) : Nat.xor b (modOf k - 1) = modOf k - 1 - b := by
  rw [modOf_bits] at *
  apply Nat.eq_of_testBit_eq
  intro i
  show (b ^^^ (2 ^ k.bits - 1)).testBit i = _
  rw [Nat.testBit_xor, Nat.testBit_two_pow_sub_one, show 2 ^ k.bits - 1 - b = 2 ^ k.bits - (b + 1) by omega, Nat.testBit_two_pow_sub_succ h]
  by_cases c : i < k.bits
  · simp [c]
  · have : b.testBit i = false := Nat.testBit_lt_two_pow (Nat.lt_of_lt_of_le h (Nat.pow_le_pow_right (by decide) (by omega)))
    simp [c, this]

theorem pow2_coe (n : Nat) : (2 : Int) ^ n = ((2 ^ n : Nat) : Int) := by simp
theorem shrU_eq (k : IntKind) {a : Nat} (h : a < modOf k) (n : Nat) : shrU (halfOf k) (modOf k) a n < modOf k ∧ sgn k (shrU (halfOf k) (modOf k) a n) = (sgn k a).fdiv (2 ^ n) := by
  have hp : 0 < 2 ^ n := Nat.pow_pos (by decide)
  unfold shrU
  rw [blt_iff, pow2_coe, Int.fdiv_eq_ediv_of_nonneg _ (Int.natCast_nonneg _)]
  by_cases c : a < halfOf k
  · rw [decide_eq_true c]
    have hle : a / 2 ^ n ≤ a := Nat.div_le_self _ _
    have h1 : a / 2 ^ n < halfOf k := by omega
    refine ⟨?_, ?_⟩
    · show a / 2 ^ n < _; omega
    · show sgn k (a / 2 ^ n) = _
      rw [sgn_nat k h1, sgn_nat k c]
      exact (Int.natCast_ediv _ _)
  · rw [decide_eq_false c]
    show modOf k - 1 - (modOf k - 1 - a) / 2 ^ n < _ ∧ sgn k (modOf k - 1 - (modOf k - 1 - a) / 2 ^ n) = _
    have hm := modOf_pos k
    have hle : (modOf k - 1 - a) / 2 ^ n ≤ modOf k - 1 - a := Nat.div_le_self _ _
    have e : (a : Int) - modOf k = Int.negSucc (modOf k - 1 - a) := by omega
    have e2 : (Int.negSucc (modOf k - 1 - a)) / ((2 ^ n : Nat) : Int) = -((((modOf k - 1 - a) / 2 ^ n : Nat) : Int) + 1) := by
      rw [Int.negSucc_ediv _ (by omega)]
      have : ((modOf k - 1 - a : Nat) : Int) / ((2 ^ n : Nat) : Int) = (((modOf k - 1 - a) / 2 ^ n : Nat) : Int) := (Int.natCast_ediv _ _).symm
      show -(((modOf k - 1 - a : Nat) : Int) / ((2 ^ n : Nat) : Int) + 1) = _
      rw [this]
    generalize (modOf k - 1 - a) / 2 ^ n = d at *
    refine ⟨by omega, ?_⟩
    rw [sgn_eq k (by omega), if_neg (by omega), sgn_eq k h, if_neg c, e, e2]
    omega

/-- The quick function is the language's. -/
theorem arU_zar {op : BinOp} {k : IntKind} {a b c : Nat} {y : Int} (h : arU op k (halfOf k) (modOf k) a b = some c) (ha : a < modOf k) (hb : isShift op = false → b < modOf k ∧ y = sgn k b) (hs : isShift op = true → y = b) :
    c < modOf k ∧ zar op k (sgn k a) y = some (sgn k c) := by
  have hm := modOf_pos k
  have ma := sgn_mod k ha
  have lt : ∀ n : Nat, n % modOf k < modOf k := fun n => Nat.mod_lt _ hm
  have cast : ∀ n : Nat, ((n % modOf k : Nat) : Int) = (n : Int) % (modOf k : Int) := fun n => Int.natCast_emod n _
  cases op <;> simp only [arU, Option.some.injEq] at h <;> (try cases h)
  case add =>
    obtain ⟨hb', rfl⟩ := hb rfl
    refine ⟨lt _, ?_⟩
    simp only [zar]
    rw [wrap_eq k (lt (a + b))]
    · rfl
    · rw [cast, Int.add_emod, ma, sgn_mod k hb']; rfl
  case sub =>
    obtain ⟨hb', rfl⟩ := hb rfl
    refine ⟨lt _, ?_⟩
    simp only [zar]
    rw [wrap_eq k (lt (a + (modOf k - b)))]
    · rfl
    · rw [cast, Int.sub_emod, ma, sgn_mod k hb']
      have : ((a + (modOf k - b) : Nat) : Int) = (a : Int) - b + modOf k := by omega
      rw [this, Int.add_emod_right]
  case mul =>
    obtain ⟨hb', rfl⟩ := hb rfl
    refine ⟨lt _, ?_⟩
    simp only [zar]
    rw [wrap_eq k (lt (a * b))]
    · rfl
    · rw [cast, Int.mul_emod, ma, sgn_mod k hb']; rw [Int.natCast_mul]
  case quo =>
    obtain ⟨hb', rfl⟩ := hb rfl
    obtain ⟨h1, h⟩ := bif_some h
    simp only [Bool.and_eq_true, blt_iff, decide_eq_true_eq] at h1
    rw [natCase_eq] at h
    cases b with
    | zero => cases h
    | succ b =>
      cases h
      have hle : a / (b + 1) ≤ a := Nat.div_le_self _ _
      refine ⟨by show a / (b + 1) < _; omega, ?_⟩
      rw [sgn_nat k h1.1, sgn_nat k h1.2]
      simp only [zar]
      rw [if_neg (by omega)]
      have : (a : Int).tdiv ((b + 1 : Nat) : Int) = ((a / (b + 1) : Nat) : Int) := by rw [Int.tdiv_eq_ediv_of_nonneg (by omega)]; exact (Int.natCast_ediv _ _).symm
      rw [this, wrap_nat k (by omega)]; rfl
  case rem =>
    obtain ⟨hb', rfl⟩ := hb rfl
    obtain ⟨h1, h⟩ := bif_some h
    simp only [Bool.and_eq_true, blt_iff, decide_eq_true_eq] at h1
    rw [natCase_eq] at h
    cases b with
    | zero => cases h
    | succ b =>
      cases h
      have hle : a % (b + 1) ≤ a := Nat.mod_le _ _
      refine ⟨by show a % (b + 1) < _; omega, ?_⟩
      rw [sgn_nat k h1.1, sgn_nat k h1.2]
      simp only [zar]
      rw [if_neg (by omega)]
      have : (a : Int).tmod ((b + 1 : Nat) : Int) = ((a % (b + 1) : Nat) : Int) := by rw [Int.tmod_eq_emod_of_nonneg (by omega)]; exact (Int.natCast_emod _ _).symm
      rw [this, ← sgn_nat k (u := a % (b + 1)) (by omega)]; rfl
  case and =>
    obtain ⟨hb', rfl⟩ := hb rfl
    refine ⟨land_lt k ha, ?_⟩
    simp only [zar, BitVec.toNat_and, ofInt_sgn k ha, ofInt_sgn k hb']
    rw [← wrap_nat k (land_lt k ha)]; rfl
  case or =>
    obtain ⟨hb', rfl⟩ := hb rfl
    refine ⟨lor_lt k ha hb', ?_⟩
    simp only [zar, BitVec.toNat_or, ofInt_sgn k ha, ofInt_sgn k hb']
    rw [← wrap_nat k (lor_lt k ha hb')]; rfl
  case xor =>
    obtain ⟨hb', rfl⟩ := hb rfl
    refine ⟨xor_lt k ha hb', ?_⟩
    simp only [zar, BitVec.toNat_xor, ofInt_sgn k ha, ofInt_sgn k hb']
    rw [← wrap_nat k (xor_lt k ha hb')]; rfl
  case andNot =>
    obtain ⟨hb', rfl⟩ := hb rfl
    refine ⟨land_lt k ha, ?_⟩
    simp only [zar, BitVec.toNat_and, BitVec.toNat_not, ofInt_sgn k ha, ofInt_sgn k hb']
    rw [← wrap_nat k (land_lt k ha)]
    show some (k.wrap ((a &&& (2 ^ k.bits - 1 - b) : Nat) : Int)) = some (k.wrap ((Nat.land a (Nat.xor b (modOf k - 1)) : Nat) : Int))
    rw [xor_ones k hb', modOf_bits]; rfl
  case shl =>
    have hy := hs rfl
    subst hy
    refine ⟨lt _, ?_⟩
    simp only [zar]
    rw [if_neg (by omega), wrap_eq k (lt (a * 2 ^ nmin b (bitsOf k)))]
    · rfl
    · have : (a : Int) % (modOf k : Int) = a := Int.emod_eq_of_lt (by omega) (by omega)
      rw [cast, nmin_eq, bitsOf_eq, Int.toNat_natCast, pow2_coe, Int.mul_emod, ma, Int.natCast_mul]
      conv => rhs; rw [Int.mul_emod, this]
  case shr =>
    have hy := hs rfl
    subst hy
    have := shrU_eq k ha (nmin b (bitsOf k))
    refine ⟨this.1, ?_⟩
    simp only [zar]
    rw [if_neg (by omega), this.2, nmin_eq, bitsOf_eq, Int.toNat_natCast]
theorem sltU_eq (k : IntKind) {a b : Nat} (ha : a < modOf k) (hb : b < modOf k) : sltU (halfOf k) a b = decide (sgn k a < sgn k b) := by
  unfold sltU
  rw [blt_iff, blt_iff, blt_iff, sgn_eq k ha, sgn_eq k hb]
  by_cases c : a < halfOf k <;> by_cases d : b < halfOf k <;> simp only [c, d, decide_true, decide_false, if_true, if_false, bif_true, bif_false]
  · congr 1; apply propext; omega
  · symm; rw [decide_eq_false_iff_not]; omega
  · symm; rw [decide_eq_true_eq]; omega
  · congr 1; apply propext; omega
theorem cmU_zcm {op : BinOp} {k : IntKind} {a b : Nat} {r : Bool} (h : cmU op (halfOf k) a b = some r) (ha : a < modOf k) (hb : b < modOf k) : zcm op (sgn k a) (sgn k b) = some r := by
  have e : decide (sgn k a = sgn k b) = decide (a = b) := by
    congr 1; apply propext; exact ⟨sgn_inj k ha hb, fun h => by rw [h]⟩
  cases op <;> simp only [cmU, Option.some.injEq] at h <;> (try cases h) <;> simp only [zcm, Option.some.injEq]
  · rw [e, beq_iff]
  · rw [beq_iff, ← e, ← decide_not]
  · rw [sltU_eq k ha hb]
  · rw [sltU_eq k hb ha, ← decide_not]; congr 1; apply propext; omega
  · rw [sltU_eq k hb ha]
  · rw [sltU_eq k ha hb, ← decide_not]; congr 1; apply propext; omega
theorem convU_eq (j k : IntKind) {u : Nat} (h : u < modOf j) : convU j k u < modOf k ∧ k.wrap (sgn j u) = sgn k (convU j k u) := by
  have hlt : convU j k u < modOf k := Nat.mod_lt _ (modOf_pos k)
  refine ⟨hlt, wrap_eq k hlt ?_⟩
  show _ = ((sextU j u % modOf k : Nat) : Int)
  rw [Int.natCast_emod]
  have key : ((sextU j u : Nat) : Int) = sgn j u ∨ ((sextU j u : Nat) : Int) = sgn j u + 18446744073709551616 := by
    rw [sgn_eq j h]
    unfold sextU
    rw [blt_iff]
    by_cases c : u < halfOf j
    · rw [decide_eq_true c, if_pos c]; exact .inl rfl
    · rw [decide_eq_false c, if_neg c]
      right
      show ((u + (18446744073709551616 - modOf j) : Nat) : Int) = _
      have : modOf j ≤ 18446744073709551616 := by cases j <;> decide
      omega
  rcases key with e | e
  · rw [e]
  · rw [e]; symm
    have : (18446744073709551616 : Int) % (modOf k : Int) = 0 := by cases k <;> rfl
    rw [Int.add_emod, this, Int.add_zero, Int.emod_emod]
end Go.Sy
