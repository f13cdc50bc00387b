import Derived.Test.YtjpohnhgajjndaaSyN
/-! Terms: what they stand for; facts; what is owed. -/
namespace Go.Sy

inductive D where
  | i (n : Int)
  | b (b : Bool)
  | a (l : List Value)
structure Va where
  z : List Int
  a : List (List Value)

open Classical in
noncomputable def T.ev (ρ : Va) : T → Option D
  | .z n => some (.i n)
  | .zv i => (ρ.z[i]?).map .i
  | .bin op k x y => match x.ev ρ, y.ev ρ with
    | some (.i a), some (.i b) => (zar op k a b).map .i
    | _, _ => none
  | .conv k x => match x.ev ρ with
    | some (.i a) => some (.i (k.wrap a))
    | _ => none
  | .sel a i => match a.ev ρ, i.ev ρ with
    | some (.a l), some (.i n) => if 0 ≤ n then (match l[n.toNat]? with | some (.int _ m) => some (.i m) | _ => none) else none
    | _, _ => none
  | .alen a => match a.ev ρ with
    | some (.a l) => some (.i l.length)
    | _ => none
  | .av i => (ρ.a[i]?).map .a
  | .nila => some (.a [])
  | .app x y => match x.ev ρ, y.ev ρ with
    | some (.a l), some (.a m) => some (.a (l ++ m))
    | _, _ => none
  | .ci k x => match x.ev ρ with
    | some (.i n) => some (.a [.int k n])
    | _ => none
  | .cb c => match c.ev ρ with
    | some (.b b) => some (.a [.bool b])
    | _ => none
  | .bl b => some (.b b)
  | .cmp op x y => match x.ev ρ, y.ev ρ with
    | some (.i a), some (.i b) => (zcm op a b).map .b
    | _, _ => none
  | .not x => match x.ev ρ with
    | some (.b b) => some (.b (!b))
    | _ => none
  | .and x y => match x.ev ρ, y.ev ρ with
    | some (.b a), some (.b b) => some (.b (a && b))
    | _, _ => none
  | .selb a i => match a.ev ρ, i.ev ρ with
    | some (.a l), some (.i n) => if 0 ≤ n then (match l[n.toNat]? with | some (.bool m) => some (.b m) | _ => none) else none
    | _, _ => none
  | .aeq x y => match x.ev ρ, y.ev ρ with
    | some (.a l), some (.a m) => some (.b (decide (l = m)))
    | _, _ => none
  | .sub x i j => match x.ev ρ, i.ev ρ, j.ev ρ with
    | some (.a l), some (.i m), some (.i n) => if 0 ≤ m ∧ m ≤ n ∧ n ≤ l.length then some (.a ((l.take n.toNat).drop m.toNat)) else none
    | _, _, _ => none
  | .upd x i y => match x.ev ρ, i.ev ρ, y.ev ρ with
    | some (.a l), some (.i m), some (.a p) => if 0 ≤ m ∧ m + p.length ≤ l.length then some (.a (l.take m.toNat ++ p ++ l.drop (m.toNat + p.length))) else none
    | _, _, _ => none
  | .typ _ _ => none

def Va.Le (ρ ρ' : Va) : Prop := (∀ (i : Nat) (n : Int), ρ.z[i]? = some n → ρ'.z[i]? = some n) ∧ (∀ (i : Nat) (l : List Value), ρ.a[i]? = some l → ρ'.a[i]? = some l)
theorem Va.Le.refl (ρ : Va) : ρ.Le ρ := ⟨fun _ _ h => h, fun _ _ h => h⟩
theorem Va.Le.trans {a b c : Va} (h : a.Le b) (h' : b.Le c) : a.Le c := ⟨fun i n e => h'.1 i n (h.1 i n e), fun i n e => h'.2 i n (h.2 i n e)⟩
theorem ev_mono {ρ ρ' : Va} (h : ρ.Le ρ') : ∀ {t : T} {d : D}, t.ev ρ = some d → t.ev ρ' = some d := by
  intro t
  induction t with
  | z n => exact fun h => h
  | zv i =>
    intro d hd
    simp only [T.ev, Option.map_eq_some_iff] at hd ⊢
    obtain ⟨n, h1, h2⟩ := hd
    exact ⟨n, h.1 _ _ h1, h2⟩
  | av i =>
    intro d hd
    simp only [T.ev, Option.map_eq_some_iff] at hd ⊢
    obtain ⟨n, h1, h2⟩ := hd
    exact ⟨n, h.2 _ _ h1, h2⟩
  | nila => exact fun h => h
  | bl b => exact fun h => h
  | typ c x _ => intro d hd; cases hd
  | conv k x ih | alen x ih | ci k x ih | cb x ih | not x ih =>
    intro d hd
    cases hx : x.ev ρ with
    | none => simp [T.ev, hx] at hd
    | some p => have := ih hx; simp only [T.ev, hx] at hd; simp only [T.ev, this]; exact hd
  | bin op k x y ih1 ih2 | sel x y ih1 ih2 | app x y ih1 ih2 | cmp op x y ih1 ih2 | and x y ih1 ih2 | selb x y ih1 ih2 | aeq x y ih1 ih2 =>
    intro d hd
    cases hx : x.ev ρ with
    | none => simp [T.ev, hx] at hd
    | some p =>
      cases hy : y.ev ρ with
      | none => simp [T.ev, hx, hy] at hd
      | some q =>
        have h1 := ih1 hx
        have h2 := ih2 hy
        simp only [T.ev, hx, hy] at hd
        simp only [T.ev, h1, h2]
        exact hd
  | sub x y z ih1 ih2 ih3 | upd x y z ih1 ih2 ih3 =>
    intro d hd
    cases hx : x.ev ρ with
    | none => simp [T.ev, hx] at hd
    | some p =>
      cases hy : y.ev ρ with
      | none => simp [T.ev, hx, hy] at hd
      | some q =>
        cases hz : z.ev ρ with
        | none => simp [T.ev, hx, hy, hz] at hd
        | some r =>
          have h1 := ih1 hx
          have h2 := ih2 hy
          have h3 := ih3 hz
          simp only [T.ev, hx, hy, hz] at hd
          simp only [T.ev, h1, h2, h3]
          exact hd

theorem T.beq_eq : ∀ {x y : T}, T.beq x y = true → x = y := by
  intro x
  induction x with
  | z n => intro y h; cases y <;> first | cases h; done | skip
           have h : ieq n _ = true := h
           rw [ieq_eq, decide_eq_true_eq] at h; rw [h]
  | zv i => intro y h; cases y <;> first | cases h; done | skip
            rw [Nat.eq_of_beq_eq_true h]
  | av i => intro y h; cases y <;> first | cases h; done | skip
            rw [Nat.eq_of_beq_eq_true h]
  | nila => intro y h; cases y <;> first | cases h; done | rfl
  | bl b => intro y h; cases y <;> first | cases h; done | skip
            have h : bbeq b _ = true := h
            rw [bbeq_eq, decide_eq_true_eq] at h; rw [h]
  | conv k x ih =>
    intro y h; cases y <;> first | cases h; done | skip
    rename_i k' a
    have h : (kbeq k k' && T.beq x a) = true := h
    rw [Bool.and_eq_true] at h
    rw [kbeq_eq h.1, ih h.2]
  | ci k x ih =>
    intro y h; cases y <;> first | cases h; done | skip
    rename_i k' a
    have h : (kbeq k k' && T.beq x a) = true := h
    rw [Bool.and_eq_true] at h
    rw [kbeq_eq h.1, ih h.2]
  | typ c x ih =>
    intro y h; cases y <;> first | cases h; done | skip
    rename_i k' a
    have h : (Nat.beq c k' && T.beq x a) = true := h
    rw [Bool.and_eq_true] at h
    rw [Nat.eq_of_beq_eq_true h.1, ih h.2]
  | alen x ih | cb x ih | not x ih =>
    intro y h; cases y <;> first | cases h; done | skip
    rename_i a
    have h : T.beq x a = true := h
    rw [ih h]
  | bin op k x y ih1 ih2 =>
    intro z h; cases z <;> first | cases h; done | skip
    rename_i op' k' a b
    have h : (bopEq op op' && (kbeq k k' && (T.beq x a && T.beq y b))) = true := h
    simp only [Bool.and_eq_true] at h
    rw [bopEq_eq h.1, kbeq_eq h.2.1, ih1 h.2.2.1, ih2 h.2.2.2]
  | cmp op x y ih1 ih2 =>
    intro z h; cases z <;> first | cases h; done | skip
    rename_i op' a b
    have h : (bopEq op op' && (T.beq x a && T.beq y b)) = true := h
    simp only [Bool.and_eq_true] at h
    rw [bopEq_eq h.1, ih1 h.2.1, ih2 h.2.2]
  | sel x y ih1 ih2 | app x y ih1 ih2 | and x y ih1 ih2 | selb x y ih1 ih2 | aeq x y ih1 ih2 =>
    intro z h; cases z <;> first | cases h; done | skip
    rename_i a b
    have h : (T.beq x a && T.beq y b) = true := h
    simp only [Bool.and_eq_true] at h
    rw [ih1 h.1, ih2 h.2]
  | sub x y z ih1 ih2 ih3 | upd x y z ih1 ih2 ih3 =>
    intro w h; cases w <;> first | cases h; done | skip
    rename_i a b c
    have h : (T.beq x a && (T.beq y b && T.beq z c)) = true := h
    simp only [Bool.and_eq_true] at h
    rw [ih1 h.1, ih2 h.2.1, ih3 h.2.2]

/-! ### Facts -/
def FOK (ρ : Va) (f : List T) : Prop := ∀ c ∈ f, c.ev ρ = some (.b true)
theorem FOK.mono {ρ ρ' : Va} (h : ρ.Le ρ') {f : List T} (hf : FOK ρ f) : FOK ρ' f := fun c hc => ev_mono h (hf c hc)
theorem FOK.tail {ρ : Va} {c : T} {f : List T} (h : FOK ρ (c :: f)) : FOK ρ f := fun d hd => h d (List.mem_cons_of_mem _ hd)
theorem FOK.cons {ρ : Va} {c : T} {f : List T} (hc : c.ev ρ = some (.b true)) (h : FOK ρ f) : FOK ρ (c :: f) := fun d hd => by
  rcases List.mem_cons.1 hd with rfl | hd
  · exact hc
  · exact h d hd

theorem cmp_inv {ρ : Va} {op : BinOp} {x y : T} {r : Bool} (h : (T.cmp op x y).ev ρ = some (.b r)) : ∃ n m, x.ev ρ = some (.i n) ∧ y.ev ρ = some (.i m) ∧ zcm op n m = some r := by
  cases hx : x.ev ρ with
  | none => simp [T.ev, hx] at h
  | some p =>
    cases hy : y.ev ρ with
    | none => simp [T.ev, hx, hy] at h
    | some q =>
      cases p <;> cases q <;> simp [T.ev, hx, hy] at h
      exact ⟨_, _, rfl, rfl, h⟩
theorem cmp_ev {ρ : Va} {op : BinOp} {x y : T} {n m : Int} (hx : x.ev ρ = some (.i n)) (hy : y.ev ρ = some (.i m)) : (T.cmp op x y).ev ρ = (zcm op n m).map .b := by
  simp only [T.ev, hx, hy]

/-- 0: less, 1: the same, 2: more. -/
def relB (n m : Int) : Nat := if n < m then 0 else if n = m then 1 else 2
theorem opMask_bit {op : BinOp} {n m : Int} {r : Bool} (h : zcm op n m = some r) : Nat.testBit (opMask op) (relB n m) = r := by
  unfold relB
  rcases Int.lt_trichotomy n m with c | c | c
  · rw [if_pos c]
    cases op <;> simp only [zcm, Option.some.injEq] at h <;> (try cases h) <;> simp only [opMask] <;> (first | exact (decide_eq_true (by omega)).symm | exact (decide_eq_false (by omega)).symm)
  · rw [if_neg (by omega), if_pos c]
    cases op <;> simp only [zcm, Option.some.injEq] at h <;> (try cases h) <;> simp only [opMask] <;> (first | exact (decide_eq_true (by omega)).symm | exact (decide_eq_false (by omega)).symm)
  · rw [if_neg (by omega), if_neg (by omega)]
    cases op <;> simp only [zcm, Option.some.injEq] at h <;> (try cases h) <;> simp only [opMask] <;> (first | exact (decide_eq_true (by omega)).symm | exact (decide_eq_false (by omega)).symm)
theorem relB_flip (n m : Int) : relB m n = 2 - relB n m := by
  unfold relB
  rcases Int.lt_trichotomy n m with c | c | c
  · rw [if_pos c, if_neg (by omega), if_neg (by omega)]
  · rw [if_neg (by omega), if_pos c.symm, if_neg (by omega), if_pos c]
  · rw [if_pos c, if_neg (by omega), if_neg (by omega)]
theorem relB_le (n m : Int) : relB n m ≤ 2 := by unfold relB; split <;> (try split) <;> omega
theorem flipM_bit {q b : Nat} (hq : q = 1 ∨ q = 2 ∨ q = 3 ∨ q = 4 ∨ q = 5 ∨ q = 6 ∨ q = 7) (hb : b ≤ 2) : Nat.testBit (flipM q) b = Nat.testBit q (2 - b) := by
  have : b = 0 ∨ b = 1 ∨ b = 2 := by omega
  rcases hq with rfl | rfl | rfl | rfl | rfl | rfl | rfl <;> rcases this with rfl | rfl | rfl <;> rfl
theorem opMask_vals (op : BinOp) : opMask op = 1 ∨ opMask op = 2 ∨ opMask op = 3 ∨ opMask op = 4 ∨ opMask op = 5 ∨ opMask op = 6 ∨ opMask op = 7 := by cases op <;> simp [opMask]
theorem land_bit (a b i : Nat) : Nat.testBit (Nat.land a b) i = (Nat.testBit a i && Nat.testBit b i) := Nat.testBit_and a b i
theorem maskF_bit {ρ : Va} {x y : T} {n m : Int} (hx : x.ev ρ = some (.i n)) (hy : y.ev ρ = some (.i m)) : ∀ {f : List T}, FOK ρ f → Nat.testBit (maskF x y f) (relB n m) = true
  | [], _ => by
    show Nat.testBit 7 _ = true
    have := relB_le n m
    have : relB n m = 0 ∨ relB n m = 1 ∨ relB n m = 2 := by omega
    rcases this with e | e | e <;> rw [e] <;> rfl
  | c :: f, h => by
    have ih := maskF_bit hx hy h.tail
    have hc := h c (by simp)
    cases c <;> try exact ih
    rename_i op a b
    show Nat.testBit (bif_ (T.beq a x && T.beq b y) (Nat.land (opMask op) (maskF x y f)) (bif_ (T.beq a y && T.beq b x) (Nat.land (flipM (opMask op)) (maskF x y f)) (maskF x y f))) _ = true
    obtain ⟨p, q, h1, h2, h3⟩ := cmp_inv hc
    cases e1 : T.beq a x && T.beq b y with
    | true =>
      rw [Bool.and_eq_true] at e1
      rw [T.beq_eq e1.1, hx] at h1; rw [T.beq_eq e1.2, hy] at h2
      cases h1; cases h2
      rw [bif_true, land_bit, ih, opMask_bit h3]; rfl
    | false =>
      rw [bif_false]
      cases e2 : T.beq a y && T.beq b x with
      | true =>
        rw [Bool.and_eq_true] at e2
        rw [T.beq_eq e2.1, hy] at h1; rw [T.beq_eq e2.2, hx] at h2
        cases h1; cases h2
        have := opMask_bit h3
        rw [bif_true, land_bit, ih, flipM_bit (opMask_vals op) (relB_le _ _), ← relB_flip, this]; rfl
      | false => exact ih
theorem imax_le {a b n : Int} (h : a ≤ n) (h' : b ≤ n) : imax a b ≤ n := by unfold imax; cases ilt a b <;> assumption
theorem le_imin {a b n : Int} (h : n ≤ a) (h' : n ≤ b) : n ≤ imin a b := by unfold imin; cases ilt a b <;> assumption
theorem isucc_eq (a : Int) : isucc a = a + 1 := by
  cases a with
  | ofNat n => rfl
  | negSucc n => cases n with
    | zero => rfl
    | succ n => show Int.negSucc n = Int.negSucc (n + 1) + 1; omega
theorem ipred_eq (a : Int) : ipred a = a - 1 := by
  cases a with
  | ofNat n => cases n with
    | zero => rfl
    | succ n => show Int.ofNat n = Int.ofNat (n + 1) - 1; simp
  | negSucc n => show Int.negSucc (n + 1) = Int.negSucc n - 1; omega
theorem zar_wraps {op : BinOp} {k : IntKind} {x y c : Int} (h : zar op k x y = some c) (hw : wraps op = true) : (Lit.int k c).wf = true := by
  cases op <;> simp only [zar, Option.some.injEq] at h <;> (try cases h) <;> (try exact wrap_wf _ _) <;> (try (cases hw; done))
  · split at h <;> cases h; exact wrap_wf _ _
  · split at h <;> cases h; exact wrap_wf _ _
theorem range0 {ρ : Va} {x : T} {n : Int} (hx : x.ev ρ = some (.i n)) : (∀ a, lo0 x = some a → a ≤ n) ∧ (∀ a, hi0 x = some a → n ≤ a) := by
  cases x with
  | z m =>
    simp only [T.ev, Option.some.injEq, D.i.injEq] at hx
    subst hx
    exact ⟨fun a h => by cases h; exact Int.le_refl _, fun a h => by cases h; exact Int.le_refl _⟩
  | bin op k x y =>
    cases h1 : x.ev ρ with
    | none => simp [T.ev, h1] at hx
    | some p =>
      cases h2 : y.ev ρ with
      | none => simp [T.ev, h1, h2] at hx
      | some q =>
        cases p <;> cases q <;> simp [T.ev, h1, h2] at hx
        cases hw : wraps op with
        | false => exact ⟨fun a h => by simp [lo0, hw] at h, fun a h => by simp [hi0, hw] at h⟩
        | true =>
          have := wf_range (zar_wraps hx hw)
          exact ⟨fun a h => by simp [lo0, hw] at h; rw [← h]; exact this.1, fun a h => by simp [hi0, hw] at h; rw [← h]; exact this.2⟩
  | conv k x =>
    cases h1 : x.ev ρ with
    | none => simp [T.ev, h1] at hx
    | some p =>
      cases p <;> simp [T.ev, h1] at hx
      subst hx
      have := wf_range (wrap_wf k ‹_›)
      exact ⟨fun a h => by cases h; exact this.1, fun a h => by cases h; exact this.2⟩
  | alen x =>
    refine ⟨fun a h => ?_, fun a h => (nomatch h)⟩
    cases h
    cases h1 : x.ev ρ with
    | none => simp [T.ev, h1] at hx
    | some p =>
      cases p <;> simp [T.ev, h1] at hx
      subst hx
      exact Int.natCast_nonneg _
  | _ => exact ⟨fun a h => (nomatch h), fun a h => (nomatch h)⟩
theorem loF_le {ρ : Va} {x : T} {n : Int} (hx : x.ev ρ = some (.i n)) : ∀ {f : List T}, FOK ρ f → ∀ a, loF x f = some a → a ≤ n
  | [], _, a, h => (range0 hx).1 a h
  | c :: f, hf, a, h => by
    have ih := loF_le hx hf.tail
    have hc := hf c (by simp)
    cases c <;> try exact ih a h
    rename_i op p q
    cases q <;> try exact ih a h
    rename_i m
    have h : bif_ (T.beq p x) (loOp m (loF x f) op) (loF x f) = some a := h
    cases e : T.beq p x with
    | false => rw [e] at h; exact ih a h
    | true =>
      rw [e] at h
      obtain ⟨u, v, h1, h2, h3⟩ := cmp_inv hc
      rw [T.beq_eq e, hx] at h1
      simp only [T.ev, Option.some.injEq, D.i.injEq] at h2
      cases h1; subst h2
      have om : ∀ b : Int, b ≤ n → omax b (loF x f) = some a → a ≤ n := by
        intro b hb h
        cases hl : loF x f with
        | none => rw [hl] at h; cases h; exact hb
        | some d => rw [hl] at h; cases h; exact imax_le hb (ih d hl)
      have h : loOp m (loF x f) op = some a := h
      cases op <;> simp only [loOp] at h <;> (try exact ih a h)
      · simp only [zcm, Option.some.injEq, decide_eq_true_eq] at h3; exact om _ (by omega) h
      · simp only [zcm, Option.some.injEq, decide_eq_true_eq] at h3; rw [isucc_eq] at h; exact om _ (by omega) h
      · simp only [zcm, Option.some.injEq, decide_eq_true_eq] at h3; exact om _ (by omega) h
theorem le_hiF {ρ : Va} {x : T} {n : Int} (hx : x.ev ρ = some (.i n)) : ∀ {f : List T}, FOK ρ f → ∀ a, hiF x f = some a → n ≤ a
  | [], _, a, h => (range0 hx).2 a h
  | c :: f, hf, a, h => by
    have ih := le_hiF hx hf.tail
    have hc := hf c (by simp)
    cases c <;> try exact ih a h
    rename_i op p q
    cases q <;> try exact ih a h
    rename_i m
    have h : bif_ (T.beq p x) (hiOp m (hiF x f) op) (hiF x f) = some a := h
    cases e : T.beq p x with
    | false => rw [e] at h; exact ih a h
    | true =>
      rw [e] at h
      obtain ⟨u, v, h1, h2, h3⟩ := cmp_inv hc
      rw [T.beq_eq e, hx] at h1
      simp only [T.ev, Option.some.injEq, D.i.injEq] at h2
      cases h1; subst h2
      have om : ∀ b : Int, n ≤ b → omin b (hiF x f) = some a → n ≤ a := by
        intro b hb h
        cases hl : hiF x f with
        | none => rw [hl] at h; cases h; exact hb
        | some d => rw [hl] at h; cases h; exact le_imin hb (ih d hl)
      have h : hiOp m (hiF x f) op = some a := h
      cases op <;> simp only [hiOp] at h <;> (try exact ih a h)
      · simp only [zcm, Option.some.injEq, decide_eq_true_eq] at h3; exact om _ (by omega) h
      · simp only [zcm, Option.some.injEq, decide_eq_true_eq] at h3; rw [ipred_eq] at h; exact om _ (by omega) h
      · simp only [zcm, Option.some.injEq, decide_eq_true_eq] at h3; exact om _ (by omega) h
theorem maskHL_vals (p q : Option Int) : maskHL p q = 1 ∨ maskHL p q = 3 ∨ maskHL p q = 7 := by
  cases p with
  | none => exact .inr (.inr rfl)
  | some a =>
    cases q with
    | none => exact .inr (.inr rfl)
    | some b =>
      show bif_ (ilt a b) 1 (bif_ (ieq a b) 3 7) = 1 ∨ bif_ (ilt a b) 1 (bif_ (ieq a b) 3 7) = 3 ∨ bif_ (ilt a b) 1 (bif_ (ieq a b) 3 7) = 7
      cases ilt a b with
      | true => exact .inl rfl
      | false => cases ieq a b with
        | true => exact .inr (.inl rfl)
        | false => exact .inr (.inr rfl)
theorem maskHL_bit {n m : Int} {p q : Option Int} (hp : ∀ a, p = some a → n ≤ a) (hq : ∀ a, q = some a → a ≤ m) : Nat.testBit (maskHL p q) (relB n m) = true := by
  have seven : Nat.testBit 7 (relB n m) = true := by
    have := relB_le n m
    have : relB n m = 0 ∨ relB n m = 1 ∨ relB n m = 2 := by omega
    rcases this with e | e | e <;> rw [e] <;> rfl
  cases p with
  | none => exact seven
  | some a =>
    cases q with
    | none => exact seven
    | some b =>
      have h1 := hp a rfl
      have h2 := hq b rfl
      show Nat.testBit (bif_ (ilt a b) 1 (bif_ (ieq a b) 3 7)) _ = true
      rw [ilt_eq, ieq_eq]
      by_cases c : a < b
      · rw [decide_eq_true c, bif_true]
        have : relB n m = 0 := by unfold relB; rw [if_pos (by omega)]
        rw [this]; rfl
      · rw [decide_eq_false c, bif_false]
        by_cases e : a = b
        · rw [decide_eq_true e, bif_true]
          have : relB n m = 0 ∨ relB n m = 1 := by unfold relB; split <;> (try split) <;> omega
          rcases this with e | e <;> rw [e] <;> rfl
        · rw [decide_eq_false e]; exact seven
theorem relM_bit {ρ : Va} {f : List T} (hf : FOK ρ f) {x y : T} {n m : Int} (hx : x.ev ρ = some (.i n)) (hy : y.ev ρ = some (.i m)) : Nat.testBit (relM f x y) (relB n m) = true := by
  unfold relM
  cases e : T.beq x y with
  | true =>
    rw [T.beq_eq e, hy] at hx
    have hnm : m = n := by injection hx with hx; injection hx
    have : relB n m = 1 := by unfold relB; rw [if_neg (by omega), if_pos hnm.symm]
    rw [this, bif_true]; rfl
  | false =>
    rw [bif_false, land_bit, land_bit, maskF_bit hx hy hf, maskHL_bit (le_hiF hx hf) (loF_le hy hf)]
    rw [flipM_bit (by rcases maskHL_vals (hiF y f) (loF x f) with h | h | h <;> simp [h]) (relB_le _ _), ← relB_flip, maskHL_bit (le_hiF hy hf) (loF_le hx hf)]
    rfl
theorem mask3_bit {q p b : Nat} {r : Bool} (h : mask3 q p = some r) (hb : Nat.testBit q b = true) : Nat.testBit p b = r := by
  unfold mask3 at h
  cases e : Nat.beq (Nat.land q p) q with
  | true =>
    rw [e] at h
    cases h
    have e := Nat.eq_of_beq_eq_true e
    have := land_bit q p b
    rw [e, hb] at this
    simpa using this.symm
  | false =>
    rw [e, bif_false] at h
    cases e2 : Nat.beq (Nat.land q p) 0 with
    | true =>
      rw [e2] at h
      cases h
      have e2 := Nat.eq_of_beq_eq_true e2
      have := land_bit q p b
      rw [e2, hb] at this
      simpa using this.symm
    | false => rw [e2] at h; cases h
theorem memT_mem {c : T} : ∀ {f : List T}, memT c f = true → c ∈ f
  | [], h => by cases h
  | d :: f, h => by
    have h : (Bool.rec (memT c f) true (T.beq d c) : Bool) = true := h
    cases e : T.beq d c with
    | true => rw [T.beq_eq e]; simp
    | false => rw [e] at h; exact List.mem_cons_of_mem _ (memT_mem h)
theorem not_inv {ρ : Va} {x : T} {r : Bool} (h : (T.not x).ev ρ = some (.b r)) : x.ev ρ = some (.b (!r)) := by
  cases hx : x.ev ρ with
  | none => simp [T.ev, hx] at h
  | some p => cases p <;> simp [T.ev, hx] at h; subst h; simp
theorem lookT_sound {ρ : Va} {f : List T} (hf : FOK ρ f) {c : T} {b r : Bool} (h : lookT c f = some b) (hc : c.ev ρ = some (.b r)) : r = b := by
  unfold lookT at h
  cases e : memT c f with
  | true =>
    rw [e] at h; cases h
    have := hf c (memT_mem e)
    rw [hc] at this; cases this; rfl
  | false =>
    rw [e, bif_false] at h
    cases e2 : memT (.not c) f with
    | true =>
      rw [e2] at h; cases h
      have := not_inv (hf _ (memT_mem e2))
      rw [hc] at this; cases this; rfl
    | false => rw [e2] at h; cases h
theorem and_inv {ρ : Va} {x y : T} {r : Bool} (h : (T.and x y).ev ρ = some (.b r)) : ∃ a b, x.ev ρ = some (.b a) ∧ y.ev ρ = some (.b b) ∧ r = (a && b) := by
  cases hx : x.ev ρ with
  | none => simp [T.ev, hx] at h
  | some p =>
    cases hy : y.ev ρ with
    | none => simp [T.ev, hx, hy] at h
    | some q =>
      cases p <;> cases q <;> simp [T.ev, hx, hy] at h
      exact ⟨_, _, rfl, rfl, h.symm⟩
theorem dec_sound {ρ : Va} {f : List T} (hf : FOK ρ f) : ∀ {c : T} {b r : Bool}, dec f c = some b → c.ev ρ = some (.b r) → r = b := by
  intro c
  induction c with
  | bl v => intro b r h hc; cases h; cases hc; rfl
  | cmp op x y _ _ =>
    intro b r h hc
    obtain ⟨n, m, h1, h2, h3⟩ := cmp_inv hc
    have := mask3_bit h (relM_bit hf h1 h2)
    rw [opMask_bit h3] at this; exact this
  | not x ih =>
    intro b r h hc
    have hx := not_inv hc
    have h : notO (dec f x) = some b := h
    cases e : dec f x with
    | none => rw [e] at h; cases h
    | some p =>
      rw [e] at h; cases h
      have := ih e hx
      cases r <;> cases p <;> simp_all
  | and x y ih1 ih2 =>
    intro b r h hc
    obtain ⟨p, q, h1, h2, rfl⟩ := and_inv hc
    have h : (Option.rec (lookT (.and x y) f) (fun b => some b) (andO (dec f x) (dec f y)) : Option Bool) = some b := h
    have fin : lookT (.and x y) f = some b → (p && q) = b := fun h => lookT_sound hf h hc
    cases e1 : dec f x with
    | none =>
      cases e2 : dec f y with
      | none => rw [e1, e2] at h; exact fin h
      | some v =>
        rw [e1, e2] at h
        cases v with
        | true => exact fin h
        | false => cases h; rw [ih2 e2 h2]; simp
    | some u =>
      cases u with
      | false => rw [e1] at h; cases h; rw [ih1 e1 h1]; simp
      | true =>
        have := ih1 e1 h1
        subst this
        cases e2 : dec f y with
        | none => rw [e1, e2] at h; exact fin h
        | some v => rw [e1, e2] at h; cases h; rw [ih2 e2 h2]; simp
  | selb x y _ _ => intro b r h hc; exact lookT_sound hf h hc
  | aeq x y _ _ =>
    intro b r h hc
    have h : bif_ (T.beq x y) (some true) (lookT (.aeq x y) f) = some b := h
    cases e : T.beq x y with
    | true =>
      rw [e] at h; cases h
      have e := T.beq_eq e
      subst e
      cases hx : x.ev ρ with
      | none => simp [T.ev, hx] at hc
      | some p => cases p <;> simp [T.ev, hx] at hc; exact hc
    | false => rw [e] at h; exact lookT_sound hf h hc
  | typ c x _ => intro b r h hc; exact lookT_sound hf h hc
  | _ => intro b r h hc; cases h

theorem zcm_flip (op : BinOp) (n m : Int) : zcm (flipOp op) n m = zcm op m n := by
  cases op <;> simp only [flipOp, zcm, Option.some.injEq] <;> exact decide_eq_decide.2 (by omega)
theorem mkCmp_ev {ρ : Va} {op : BinOp} {x y : T} {n m : Int} (hx : x.ev ρ = some (.i n)) (hy : y.ev ρ = some (.i m)) : (mkCmp op x y).ev ρ = (zcm op n m).map .b := by
  unfold mkCmp
  cases isZ x with
  | true => rw [bif_true, cmp_ev hy hx, zcm_flip]
  | false => exact cmp_ev hx hy
theorem zcm_neg {op : BinOp} {n m : Int} {r : Bool} (h : zcm op n m = some r) : zcm (negOp op) n m = some (!r) := by
  cases op <;> simp only [zcm, Option.some.injEq] at h <;> (try cases h) <;> simp only [negOp, zcm, Option.some.injEq] <;> rw [← decide_not] <;> exact decide_eq_decide.2 (by omega)
theorem mkNot_ev {ρ : Va} {c : T} {r : Bool} (h : c.ev ρ = some (.b r)) : (mkNot c).ev ρ = some (.b (!r)) := by
  have plain : (T.not c).ev ρ = some (.b (!r)) := by simp only [T.ev, h]
  cases c with
  | bl b => cases h; rfl
  | cmp op x y =>
    obtain ⟨n, m, h1, h2, h3⟩ := cmp_inv h
    show (T.cmp (negOp op) x y).ev ρ = _
    rw [cmp_ev h1 h2, zcm_neg h3]; rfl
  | not x => exact not_inv h
  | _ => exact plain
theorem addF_ok {ρ : Va} {c : T} (hc : c.ev ρ = some (.b true)) : ∀ {f : List T}, FOK ρ f → FOK ρ (addF c f) := by
  induction c with
  | cmp op x y _ _ => intro f hf; exact hf.cons hc
  | not x _ => intro f hf; exact FOK.cons (by have := mkNot_ev (not_inv hc); simpa using this) hf
  | and x y ih1 ih2 =>
    intro f hf
    obtain ⟨a, b, h1, h2, h3⟩ := and_inv hc
    have h3 := h3.symm
    rw [Bool.and_eq_true] at h3
    obtain ⟨rfl, rfl⟩ := h3
    exact ih1 h1 (ih2 h2 hf)
  | selb x y _ _ => intro f hf; exact hf.cons hc
  | aeq x y _ _ => intro f hf; exact hf.cons hc
  | typ c x _ => intro f hf; exact hf.cons hc
  | _ => intro f hf; exact hf

/-! ### What is owed -/
abbrev Pred := Nat → List D → Prop
noncomputable def evL (ρ : Va) : List T → Option (List D)
  | [] => some []
  | t :: r => match t.ev ρ, evL ρ r with
    | some d, some l => some (d :: l)
    | _, _ => none
def ints : List D → Option (List Int)
  | [] => some []
  | .i n :: r => (ints r).map (n :: ·)
  | _ => none
def rows : List D → Option (List (List Value))
  | [] => some []
  | .a n :: r => (rows r).map (n :: ·)
  | _ => none
noncomputable def Asm.holds (Θ : Pred) (ρ : Va) : Asm → Prop
  | .c t => t.ev ρ = some (.b true)
  | .p i l => ∃ d, evL ρ l = some d ∧ Θ i d
noncomputable def Asms (Θ : Pred) (ρ : Va) (h : List Asm) : Prop := ∀ a ∈ h, a.holds Θ ρ
def Va.add (ρ : Va) (zs : List Int) (ws : List (List Value)) : Va := ⟨ρ.z ++ zs, ρ.a ++ ws⟩
theorem Va.le_add (ρ : Va) (zs : List Int) (ws : List (List Value)) : ρ.Le (ρ.add zs ws) :=
  ⟨fun i n h => by simp only [Va.add]; rw [List.getElem?_append_left (List.getElem?_eq_some_iff.1 h).1]; exact h,
   fun i n h => by simp only [Va.add]; rw [List.getElem?_append_left (List.getElem?_eq_some_iff.1 h).1]; exact h⟩
abbrev Back := List Int → List (List Value) → Prop
noncomputable def VC.holds (Θ : Pred) : VC → Va → List Back → Prop
  | .ok, _, _ => True
  | .bad, _, _ => False
  | .br c x y, ρ, R => (c.ev ρ = some (.b true) → x.holds Θ ρ R) ∧ (c.ev ρ = some (.b false) → y.holds Θ ρ R)
  | .need c x, ρ, R => c.ev ρ = some (.b true) ∧ x.holds Θ ρ R
  | .both x y, ρ, R => x.holds Θ ρ R ∧ y.holds Θ ρ R
  | .all nz na h x, ρ, R => ∀ zs ws, zs.length = nz → ws.length = na → Asms Θ (ρ.add zs ws) h → x.holds Θ (ρ.add zs ws) R
  | .loop nz na h m zs ws x, ρ, R =>
    (∃ dz dw vz vw, evL ρ zs = some dz ∧ evL ρ ws = some dw ∧ ints dz = some vz ∧ rows dw = some vw ∧ vz.length = nz ∧ vw.length = na ∧ Asms Θ (ρ.add vz vw) h ∧ ∃ k : Int, m.ev (ρ.add vz vw) = some (.i k)) ∧
    ∀ fz fw, fz.length = nz → fw.length = na → Asms Θ (ρ.add fz fw) h → ∀ k : Int, m.ev (ρ.add fz fw) = some (.i k) →
      x.holds Θ (ρ.add fz fw) (R ++ [fun gz gw => gz.length = nz ∧ gw.length = na ∧ Asms Θ (ρ.add gz gw) h ∧ ∃ j : Int, m.ev (ρ.add gz gw) = some (.i j) ∧ 0 ≤ j ∧ j < k])
  | .back lv zs ws, ρ, R => ∃ dz dw vz vw, evL ρ zs = some dz ∧ evL ρ ws = some dw ∧ ints dz = some vz ∧ rows dw = some vw ∧ ∃ r, R[lv]? = some r ∧ r vz vw

theorem triv_holds {Θ : Pred} : ∀ {v : VC} {ρ : Va} {R : List Back}, v.triv = true → v.holds Θ ρ R := by
  intro v
  induction v with
  | ok => intros; trivial
  | bad => intro ρ R h; cases h
  | br c x y ih1 ih2 =>
    intro ρ R h
    have h : (x.triv && y.triv) = true := h
    rw [Bool.and_eq_true] at h
    exact ⟨fun _ => ih1 h.1, fun _ => ih2 h.2⟩
  | need c x _ => intro ρ R h; cases h
  | both x y ih1 ih2 =>
    intro ρ R h
    have h : (x.triv && y.triv) = true := h
    rw [Bool.and_eq_true] at h
    exact ⟨ih1 h.1, ih2 h.2⟩
  | all nz na h x ih => intro ρ R h; exact fun zs ws _ _ _ => ih h
  | loop => intro ρ R h; cases h
  | back => intro ρ R h; cases h

section
variable {Θ : Pred} {ρ : Va} {R : List Back}
theorem vbind_inv {α : Type} {o : Option α} {f : α → VC} (h : (vbind o f).holds Θ ρ R) : ∃ x, o = some x ∧ (f x).holds Θ ρ R := by
  cases o with
  | none => exact h.elim
  | some x => exact ⟨x, rfl, h⟩
theorem vif_inv {b : Bool} {x : VC} (h : (vif b x).holds Θ ρ R) : b = true ∧ x.holds Θ ρ R := by
  cases b with
  | false => exact h.elim
  | true => exact ⟨rfl, h⟩
theorem bif_holds {b : Bool} {x y : VC} (h : (bif_ b x y).holds Θ ρ R) : (b = true ∧ x.holds Θ ρ R) ∨ (b = false ∧ y.holds Θ ρ R) := by
  cases b with
  | false => exact .inr ⟨rfl, h⟩
  | true => exact .inl ⟨rfl, h⟩
theorem brec_holds {b : Bool} {x y : VC} (h : (Bool.rec y x b : VC).holds Θ ρ R) : (b = true ∧ x.holds Θ ρ R) ∨ (b = false ∧ y.holds Θ ρ R) := by
  cases b with
  | false => exact .inr ⟨rfl, h⟩
  | true => exact .inl ⟨rfl, h⟩
theorem withF_self (st : St) : st.withF st.facts = st := by
  obtain ⟨n, nc, h, l, o, s, f, nz, na, no, lv⟩ := st; rfl
theorem assume_eq (c : T) (st : St) (k : St → VC) : assume c st k = k (st.withF (addF c st.facts)) := by
  unfold assume; rw [forceF_eq]
theorem brK_inv {c : T} {st : St} {x y : St → VC} {r : Bool} (h : (brK c st x y).holds Θ ρ R) (hf : FOK ρ st.facts) (hc : c.ev ρ = some (.b r)) :
    ∃ f, FOK ρ f ∧ ((r = true ∧ (x (st.withF f)).holds Θ ρ R) ∨ (r = false ∧ (y (st.withF f)).holds Θ ρ R)) := by
  unfold brK at h
  cases e : dec st.facts c with
  | none =>
    rw [e] at h
    have h : (c.ev ρ = some (.b true) → (assume c st x).holds Θ ρ R) ∧ (c.ev ρ = some (.b false) → (assume (mkNot c) st y).holds Θ ρ R) := h
    rw [assume_eq, assume_eq] at h
    cases r with
    | true => exact ⟨_, addF_ok hc hf, .inl ⟨rfl, h.1 hc⟩⟩
    | false => exact ⟨_, addF_ok (mkNot_ev hc) hf, .inr ⟨rfl, h.2 hc⟩⟩
  | some b =>
    rw [e] at h
    have hr := dec_sound hf e hc
    subst hr
    refine ⟨st.facts, hf, ?_⟩
    rw [withF_self]
    cases r with
    | true => exact .inl ⟨rfl, h⟩
    | false => exact .inr ⟨rfl, h⟩
theorem needK_inv {c : T} {st : St} {k : St → VC} {r : Bool} (h : (needK c st k).holds Θ ρ R) (hf : FOK ρ st.facts) (hc : c.ev ρ = some (.b r)) :
    r = true ∧ ∃ f, FOK ρ f ∧ (k (st.withF f)).holds Θ ρ R := by
  unfold needK at h
  cases e : dec st.facts c with
  | none =>
    rw [e] at h
    have h : c.ev ρ = some (.b true) ∧ (assume c st k).holds Θ ρ R := h
    rw [assume_eq] at h
    have h1 := h.1
    rw [hc] at h1
    cases h1
    exact ⟨rfl, _, addF_ok hc hf, h.2⟩
  | some b =>
    rw [e] at h
    have hr := dec_sound hf e hc
    subst hr
    cases r with
    | true => exact ⟨rfl, st.facts, hf, by rw [withF_self]; exact h⟩
    | false => exact h.elim
end
end Go.Sy
