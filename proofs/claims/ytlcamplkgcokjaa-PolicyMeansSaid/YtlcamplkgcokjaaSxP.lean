import Derived.Test.YtlcamplkgcokjaaSxO
/-! One operation that is no call. -/
namespace Go.Sx
open Go.RowKit (Below)

/-- The operation yields x, and leaves w'. -/
def Yields (P : Program) (o : Oper) (a : Act) (w : World) (x : Value) (w' : World) : Prop :=
  (execOp a.eval o).run P w = .ok (.value x) w' ∨ ((execOp a.eval o).run P w = .ok .skip w' ∧ x = undef)

def OpOK (P : Program) (σ : Nat → Option Value) (B : Nat) (w0 : World) (E : Env) (w : World) (o : Oper) (a : Act) (v : AV) (st' : St) : Prop :=
  ∃ E' x w', E.Le E' ∧ StRel σ B w0 E' st' w' ∧ v.den σ E' = some x ∧ Yields P o a w x w'

section
variable {P : Program} {cx : Cx} {σ : Nat → Option Value} {B : Nat} {w0 : World} {E : Env} {st : St} {w : World} {tm : Tm} {a : Act} {N : Nat} {β : Type} {k : Kt β} {r : β} {o : Oper}

theorem opok_value {v : AV} {x : Value} (hS : StRel σ B w0 E st w) (hx : v.den σ E = some x) (h : (execOp a.eval o).run P w = .ok (.value x) w) : OpOK P σ B w0 E w o a v st :=
  ⟨E, x, w, .refl E, hS, hx, .inl h⟩

theorem out_inv {ov : Option AV} (h : out st k ov = some r) : ∃ v, ov = some v ∧ k v st = some r := by
  cases ov with
  | none => cases h
  | some v => exact ⟨v, rfl, h⟩
theorem den_bool {v : AV} {b : Bool} (h : v = .bool b) : v.den σ E = some (.bool b) := by subst h; rfl
theorem asPtr_inv {v : AV} {x : AAddr} (h : asPtr v = some x) : v = .ptr (some x) := by
  unfold asPtr at h; split at h
  · cases h; rfl
  · cases h
theorem den_ptr {x : AAddr} {y : Value} (h : (AV.ptr (some x)).den σ E = some y) : ∃ ad, aden E x = some ad ∧ y = .pointer (some ad) := by
  simp only [AV.den, Option.map_eq_some_iff] at h
  obtain ⟨ad, h1, h2⟩ := h
  exact ⟨ad, h1, h2.symm⟩
theorem asAgg_inv {v : AV} {l : List AV} (h : asAgg v = some l) : v = .agg l := by
  unfold asAgg at h; split at h
  · cases h; rfl
  · cases h
theorem natOf_inv {v : AV} {n : Nat} (h : natOf v = some n) : ∃ kd, v = .int kd n := by
  unfold natOf at h; split at h
  · cases h; exact ⟨_, rfl⟩
  · cases h
theorem fieldsOf_inv {d : TypeDesc} {fs : List Field} (h : fieldsOf d = some fs) : ∃ f : Array Field, d = .struct f ∧ f.toList = fs := by
  unfold fieldsOf at h; split at h
  · cases h; exact ⟨_, rfl, rfl⟩
  · cases h

theorem part_sound (hc : CxOK P cx σ B w0) {t : TypeId} {l : List AV} {off : Nat} {v : AV} (h : part cx t l off = some v) {xs : List Value} (hx : denL σ E l = some xs) (w : World) :
    ∃ y, v.den σ E = some y ∧ (Go.part t xs.toArray off).run P w = .ok y w := by
  obtain ⟨g, hg, h⟩ := obind_inv h
  have hi := isAgg_sound hc hg w
  cases g with
  | false =>
    change getL off l = some v at h
    rw [getL_eq] at h
    obtain ⟨y, h1, h2⟩ := denL_get hx h
    exact ⟨y, h1, by simp [Go.part, hi, h2]⟩
  | true =>
    change obind (cx.size.get t) _ = some v at h
    obtain ⟨n, hn, h⟩ := obind_inv h
    obtain ⟨_, h⟩ := bif_some h
    cases h
    rw [takeL_eq, dropL_eq]
    refine ⟨.agg ((xs.drop off).take n).toArray, by simp [AV.den, denL_take n (denL_drop off hx)], ?_⟩
    simp only [Go.part, Sem.run_bind, hi, Result.andThen_ok, if_true, hc.size' hn, Sem.run_pure]
    congr 2
    apply Array.ext'
    simp [Nat.add_sub_cancel_left]

theorem isNo_eq {α : Type} (o : Option α) : isNo o = o.isNone := by cases o <;> rfl
theorem den_ptr' {x : Option AAddr} {y : Value} (h : (AV.ptr x).den σ E = some y) : ∃ ad, y = .pointer ad ∧ ad.isNone = x.isNone := by
  cases x with
  | none => simp only [AV.den, Option.some.injEq] at h; exact ⟨none, h.symm, rfl⟩
  | some x => obtain ⟨ad, _, h2⟩ := den_ptr h; exact ⟨some ad, h2, rfl⟩
theorem den_slice' {x : Option AAddr} {n : Nat} {c : Cap} {y : Value} (h : (AV.slice x n c).den σ E = some y) : ∃ ad cp, y = .slice ad n cp ∧ ad.isNone = x.isNone := by
  cases x with
  | none =>
    cases c with
    | k c =>
      simp only [AV.den] at h
      split at h
      · rename_i e; cases h; exact ⟨none, _, by rw [e.1], rfl⟩
      · cases h
    | u _ _ => cases h
  | some x =>
    simp only [AV.den] at h
    split at h
    · split at h
      · cases h; exact ⟨some _, _, rfl, rfl⟩
      · cases h
    · cases h
theorem den_map' {x : Option Nat} {y : Value} (h : (AV.map x).den σ E = some y) : x = none ∧ y = .map none := by
  cases x with
  | none => simp only [AV.den, Option.some.injEq] at h; exact ⟨rfl, h.symm⟩
  | some x => simp [AV.den] at h
theorem den_func' {f : Fn} {l r : List AV} {y : Value} (h : (AV.func f l r).den σ E = some y) : ∃ xs ys, denL σ E l = some xs ∧ denL σ E r = some ys ∧ y = .func f xs.toArray ys.toArray := by
  simp only [AV.den] at h
  split at h
  · rename_i x z h1 h2; cases h; exact ⟨x, z, h1, h2, rfl⟩
  · cases h
theorem den_iface' {t : TypeId} {v : AV} {y : Value} (h : (AV.iface t v).den σ E = some y) : ∃ x, v.den σ E = some x ∧ y = .iface t x := by
  simp only [AV.den, Option.map_eq_some_iff] at h
  obtain ⟨x, h1, h2⟩ := h
  exact ⟨x, h1, h2.symm⟩
theorem bbeq_eq (a b : Bool) : bbeq a b = (a == b) := by cases a <;> cases b <;> rfl

theorem eqD_sound {c : Bool} {d : TypeDesc} {x y : AV} {b : Bool} (h : eqD c d x y = some b) {t : TypeId} (ht : P.underlying t = some d) {p q : Value} (hp : x.den σ E = some p) (hq : y.den σ E = some q) (n : Nat) (w : World) :
    (Op.equalIn (n + 1) t p q).run P w = .ok b w := by
  have hu := run_underlying ht w
  unfold eqD at h
  split at h
  · split at h
    · cases h
      simp only [AV.den, Option.some.injEq] at hp hq; subst hp hq
      simp [Op.equalIn, hu, bbeq_eq]
    · cases h
  · split at h
    · cases h
      simp only [AV.den, Option.some.injEq] at hp; subst hp
      obtain ⟨ad, rfl, h2⟩ := den_ptr' hq
      simp [Op.equalIn, hu, isNo_eq, h2]
    · cases h
      obtain ⟨ad, _, rfl⟩ := den_ptr hp
      simp only [AV.den, Option.some.injEq] at hq; subst hq
      simp [Op.equalIn, hu]
    · cases h
  · split at h
    · cases h
      obtain ⟨a1, c1, rfl, h1⟩ := den_slice' hp
      obtain ⟨ad, c2, rfl, h2⟩ := den_slice' hq
      cases a1 with
      | some _ => cases h1
      | none => simp [Op.equalIn, hu, isNo_eq, h2]
    · cases h
      obtain ⟨a1, c1, rfl, h1⟩ := den_slice' hp
      obtain ⟨ad, c2, rfl, h2⟩ := den_slice' hq
      cases a1 with
      | none => cases h1
      | some _ => cases ad with
        | some _ => cases h2
        | none => simp [Op.equalIn, hu]
    · cases h
  · split at h
    · cases h
      obtain ⟨_, rfl⟩ := den_map' hp
      obtain ⟨rfl, rfl⟩ := den_map' hq
      simp [Op.equalIn, hu, isNo_eq]
    · obtain ⟨h1, _⟩ := den_map' hp; cases h1
    · cases h
  · split at h
    · cases h
      simp only [AV.den, Option.some.injEq] at hp hq; subst hp hq
      simp [Op.equalIn, hu]
    · cases h
      simp only [AV.den, Option.some.injEq] at hp; subst hp
      obtain ⟨xs, ys, _, _, rfl⟩ := den_func' hq
      simp [Op.equalIn, hu]
    · cases h
      simp only [AV.den, Option.some.injEq] at hq; subst hq
      obtain ⟨xs, ys, _, _, rfl⟩ := den_func' hp
      simp [Op.equalIn, hu]
    · cases h
  · split at h
    · obtain ⟨_, h⟩ := bif_some h
      cases h
      simp only [AV.den, Option.some.injEq] at hp hq; subst hp hq
      simp [Op.equalIn, hu]
    · cases h
      simp only [AV.den, Option.some.injEq] at hp; subst hp
      obtain ⟨xs, _, rfl⟩ := den_iface' hq
      simp [Op.equalIn, hu]
    · cases h
      simp only [AV.den, Option.some.injEq] at hq; subst hq
      obtain ⟨xs, _, rfl⟩ := den_iface' hp
      simp [Op.equalIn, hu]
    · cases h
  · cases h

def okShape : Value → Bool
  | .int .. | .float .. | .complex .. | .string _ | .agg _ => false
  | _ => true
theorem eqD_shape {c : Bool} {d : TypeDesc} {x y : AV} {b : Bool} (h : eqD c d x y = some b) {p q : Value} (hp : x.den σ E = some p) (hq : y.den σ E = some q) :
    okShape p = true ∧ (p = .nilIface → q = .nilIface → c = true) := by
  unfold eqD at h
  split at h
  · split at h
    · simp only [AV.den, Option.some.injEq] at hp; subst hp; exact ⟨rfl, fun h => by cases h⟩
    · cases h
  · split at h
    · simp only [AV.den, Option.some.injEq] at hp; subst hp; exact ⟨rfl, fun h => by cases h⟩
    · obtain ⟨ad, _, rfl⟩ := den_ptr hp; exact ⟨rfl, fun h => by cases h⟩
    · cases h
  · split at h
    · obtain ⟨a1, c1, rfl, h1⟩ := den_slice' hp; exact ⟨rfl, fun h => by cases h⟩
    · obtain ⟨a1, c1, rfl, h1⟩ := den_slice' hp; exact ⟨rfl, fun h => by cases h⟩
    · cases h
  · split at h
    · obtain ⟨_, rfl⟩ := den_map' hp; exact ⟨rfl, fun h => by cases h⟩
    · obtain ⟨_, rfl⟩ := den_map' hp; exact ⟨rfl, fun h => by cases h⟩
    · cases h
  · split at h
    · simp only [AV.den, Option.some.injEq] at hp; subst hp; exact ⟨rfl, fun h => by cases h⟩
    · simp only [AV.den, Option.some.injEq] at hp; subst hp; exact ⟨rfl, fun h => by cases h⟩
    · obtain ⟨xs, ys, _, _, rfl⟩ := den_func' hp; exact ⟨rfl, fun h => by cases h⟩
    · cases h
  · split at h
    · obtain ⟨hc, _⟩ := bif_some h
      simp only [AV.den, Option.some.injEq] at hp; subst hp; exact ⟨rfl, fun _ _ => hc⟩
    · simp only [AV.den, Option.some.injEq] at hp; subst hp
      obtain ⟨xs, _, rfl⟩ := den_iface' hq
      exact ⟨rfl, fun _ h => by cases h⟩
    · obtain ⟨xs, _, rfl⟩ := den_iface' hp; exact ⟨rfl, fun h => by cases h⟩
    · cases h
  · cases h
theorem binOp_eql (t : TypeId) {p : Value} (q : Value) (h : okShape p = true) : Go.binOp .eql t p q = (do pure (.bool (← Op.equal t p q))) := by
  cases p <;> first | (cases h; done) | (cases q <;> rfl)
theorem binOp_neq (t : TypeId) {p : Value} (q : Value) (h : okShape p = true) : Go.binOp .neq t p q = (do pure (.bool (!(← Op.equal t p q)))) := by
  cases p <;> first | (cases h; done) | (cases q <;> rfl)
theorem eqGuard_ok (op : BinOp) (t : TypeId) (x y : Operand) {p q : Value} (h : okShape p = true) (hn : p = .nilIface → q = .nilIface → (isConst x || isConst y) = true) (w : World) :
    (eqGuard op t x y p q).run P w = .ok () w := by
  unfold eqGuard
  have hcst : ∀ x : Operand, (match x with | .const _ => true | _ => false) = isConst x := fun x => by cases x <;> rfl
  cases p <;> cases q <;> first | (cases h; done) | (cases op <;> simp; done) | skip
  have := hn rfl rfl
  cases x <;> cases y <;> first | (simp [isConst] at this; done) | (cases op <;> simp)

theorem binOp_sound (hc : CxOK P cx σ B w0) {op : BinOp} {x y v : AV} {t yt : TypeId} {xo yo : Operand} (h : binOp cx.und op t (isConst xo || isConst yo) y x = some v)
    (hp : x.den σ E = some (a.eval xo)) (hq : y.den σ E = some (a.eval yo)) (ho : o.op = .binOp op t xo yo yt) :
    ∃ z, v.den σ E = some z ∧ (execOp a.eval o).run P w = .ok (.value z) w := by
  have hex : (execOp a.eval o).run P w = ((do eqGuard op t xo yo (a.eval xo) (a.eval yo); Go.binOp op t (a.eval xo) (a.eval yo)) >>= fun v => pure (Next.value v) : Sem Next).run P w := by
    simp only [execOp, ho]
  by_cases hx : ∃ k n, x = .int k n
  · obtain ⟨k, n, rfl⟩ := hx
    change binInts op k n y = some v at h
    cases y with
    | int k' m =>
      change bif_ _ _ _ = some v at h
      obtain ⟨h1, h2⟩ := bif_some h
      have hk : isShift op = true ∨ k = k' := by
        rcases Bool.or_eq_true_iff.1 h1 with h1 | h1
        · exact .inl h1
        · exact .inr (kbeq_eq h1)
      simp only [AV.den, Option.some.injEq] at hp hq
      obtain ⟨z, hz, hrun⟩ := binInt_sound (P := P) (σ := σ) (E := E) (t := t) h2 hk
      refine ⟨z, hz, ?_⟩
      rw [hex, ← hp, ← hq]
      have hg : (eqGuard op t xo yo (.int k n) (.int k' m)).run P w = .ok () w := by
        unfold eqGuard
        cases op <;> simp
      simp [hg, hrun]
    | _ => cases h
  · have h' : obind (cx.und.get t) (fun d => obind (eqD (isConst xo || isConst yo) d x y) fun r => binFn op r) = some v := by
      cases x <;> first | exact h | exact absurd ⟨_, _, rfl⟩ hx
    obtain ⟨d, hd, h'⟩ := obind_inv h'
    obtain ⟨b, hb, h'⟩ := obind_inv h'
    have heq := eqD_sound hb (hc.und t d hd) hp hq 9999 w
    obtain ⟨hsh, hnn⟩ := eqD_shape hb hp hq
    have hg := eqGuard_ok (P := P) op t xo yo hsh hnn w
    have heq' : (Op.equal t (a.eval xo) (a.eval yo)).run P w = .ok b w := heq
    unfold binFn at h'
    split at h'
    · cases h'
      refine ⟨_, rfl, ?_⟩
      rw [hex, binOp_eql t _ hsh]
      simp [hg, heq']
    · cases h'
      refine ⟨_, rfl, ?_⟩
      rw [hex, binOp_neq t _ hsh]
      simp [hg, heq']
    · cases h'
end
end Go.Sx
