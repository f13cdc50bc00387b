import Derived.Test.YtabhdlkefojbfabSyTwo
import Derived.Lib.Strings
import Derived.Laws.Tables
import Derived.Laws.MakeOwn
import Derived.Great.BuildSlice
import Derived.ChangeMaps3
/-! Operators. -/
namespace Go.Sy
section
variable {X : Tabs} {K : Nat → Prop} {w0 : World} {E : Env} {st : St} {w : World} {Θ : Pred} {R : List Back} {tm : Tm} {k : Kt} {o : Oper}

/-- Whenever it comes, and whatever it is that x and y stand for. -/
def Bin2 (P : Program) (E : Env) (v p q : AV) (run : Value → Value → Sem Value) : Prop :=
  ∀ E' x y, E.Le E' → p.den E' = some x → q.den E' = some y → ∃ z, v.den E' = some z ∧ ∀ w, (run x y).run P w = .ok z w
def Bin2Out (P : Program) (Θ : Pred) (R : List Back) (E : Env) (st : St) (k : Kt) (p q : AV) (run : Value → Value → Sem Value) : Prop :=
  ∃ v f, (k v (st.withF f)).holds Θ E.va R ∧ FOK E.va f ∧ Bin2 P E v p q run
theorem Bin2Out.now {P : Program} {p q v : AV} {run : Value → Value → Sem Value} (hk : (k v st).holds Θ E.va R) (hf : FOK E.va st.facts) (h : Bin2 P E v p q run) : Bin2Out P Θ R E st k p q run :=
  ⟨v, st.facts, by rw [withF_self]; exact hk, hf, h⟩

theorem zcm_some {op : BinOp} (h : isCmp op = true) (n m : Int) : ∃ r, zcm op n m = some r := by cases op <;> first | (cases h; done) | exact ⟨_, rfl⟩
theorem zar_some {op : BinOp} (h : isCmp op = false) {k : IntKind} {n m : Int} (hd : isDiv op = true → m ≠ 0) (hs : isShift op = true → 0 ≤ m) : ∃ c, zar op k n m = some c := by
  cases hz : zar op k n m with
  | some c => exact ⟨c, rfl⟩
  | none =>
    cases op <;> first | (cases h; done) | (cases hz; done) | skip
    · simp only [zar] at hz; rw [if_neg (hd rfl)] at hz; cases hz
    · simp only [zar] at hz; rw [if_neg (hd rfl)] at hz; cases hz
    · have := hs rfl; simp only [zar] at hz; rw [if_neg (by omega)] at hz; cases hz
    · have := hs rfl; simp only [zar] at hz; rw [if_neg (by omega)] at hz; cases hz
theorem bin_ev {ρ : Va} {op : BinOp} {k : IntKind} {x y : T} {n m c : Int} (hx : x.ev ρ = some (.i n)) (hy : y.ev ρ = some (.i m)) (h : zar op k n m = some c) : (T.bin op k x y).ev ρ = some (.i c) := by
  simp only [T.ev, hx, hy, h]; rfl
theorem guard_int (P : Program) (op : BinOp) (t : TypeId) (xo yo : Operand) (j k : IntKind) (n m : Int) (w : World) : (eqGuard op t xo yo (.int j n) (.int k m)).run P w = .ok () w := by
  unfold eqGuard
  cases op <;> simp
/-- The operator, its guard ahead of it. -/
def opRun (op : BinOp) (t : TypeId) (xo yo : Operand) (x y : Value) : Sem Value := do eqGuard op t xo yo x y; Go.binOp op t x y

theorem binT_inv {P : Program} {op : BinOp} {j kd : IntKind} {x y : T} {p q : AV} (h : (binT op j x kd y st k).holds Θ E.va R) (hf : FOK E.va st.facts) (hp : toT p = some (j, x)) (hq : toT q = some (kd, y)) (hop : okv E p) (hoq : okv E q) (t : TypeId) (xo yo : Operand) :
    Bin2Out P Θ R E st k p q (opRun op t xo yo) := by
  obtain ⟨n, hx, hxw, hxa⟩ := toT_inv hp hop
  obtain ⟨m, hy, hyw, hya⟩ := toT_inv hq hoq
  obtain ⟨hk, h⟩ := vif_inv h
  have hk : isShift op = true ∨ j = kd := by
    rcases Bool.or_eq_true_iff.1 hk with h1 | h1
    · exact .inl h1
    · exact .inr (kbeq_eq h1)
  have cmpcase : ∀ {v : AV} {r : Bool}, zcm op n m = some r → j = kd → (∀ E', E.Le E' → v.den E' = some (.bool r)) → Bin2 P E v p q (opRun op t xo yo) := by
    intro v r hr hjk hv E' x' y' hE hx' hy'
    subst hjk
    rw [hxa E' x' hE hx', hya E' y' hE hy']
    exact ⟨_, hv E' hE, fun w => by simp only [opRun, Sem.run_bind, guard_int, Result.andThen_ok]; exact zcm_run hr t w⟩
  have arcase : ∀ {c : Int}, zar op j n m = some c → Bin2 P E (.sym j (.bin op j x y)) p q (opRun op t xo yo) := by
    intro c hc E' x' y' hE hx' hy'
    rw [hxa E' x' hE hx', hya E' y' hE hy']
    exact ⟨_, den_sym_of (bin_ev (ev_mono hE.va hx) (ev_mono hE.va hy) hc) (zar_wf hc hxw), fun w => by simp only [opRun, Sem.run_bind, guard_int, Result.andThen_ok]; exact zar_run hc hk t w⟩
  rcases bif_holds h with ⟨hcmp, h⟩ | ⟨hcmp, h⟩
  · obtain ⟨r, hr⟩ := zcm_some hcmp n m
    have hjk : j = kd := hk.resolve_left (by cases op <;> first | (cases hcmp; done) | decide)
    have hev := mkCmp_ev (op := op) hx hy
    rw [hr] at hev
    cases hd : dec st.facts (mkCmp op x y) with
    | none =>
      rw [hd] at h
      exact .now h hf (cmpcase hr hjk fun E' hE => den_cnd_of (ev_mono hE.va hev))
    | some b =>
      rw [hd] at h
      have := dec_sound hf hd hev
      subst this
      exact .now h hf (cmpcase hr hjk fun E' _ => rfl)
  · rcases bif_holds h with ⟨hdiv, h⟩ | ⟨hdiv, h⟩
    · obtain ⟨h1, f, hf', h⟩ := needK_inv h hf (r := decide (m ≠ 0)) (by rw [cmp_ev hy rfl]; rfl)
      obtain ⟨c, hc⟩ := zar_some hcmp (k := j) (n := n) (m := m) (fun _ => by simpa using h1) (fun hs => by cases op <;> first | (cases hs; done) | (cases hdiv; done))
      exact ⟨_, f, h, hf', arcase hc⟩
    · rcases bif_holds h with ⟨hsh, h⟩ | ⟨hsh, h⟩
      · obtain ⟨h1, f, hf', h⟩ := needK_inv h hf (r := decide (0 ≤ m)) (by rw [cmp_ev hy rfl]; rfl)
        obtain ⟨c, hc⟩ := zar_some hcmp (k := j) (n := n) (m := m) (fun hd => by rw [hdiv] at hd; cases hd) (fun _ => by simpa using h1)
        exact ⟨_, f, h, hf', arcase hc⟩
      · obtain ⟨c, hc⟩ := zar_some hcmp (k := j) (n := n) (m := m) (fun hd => by rw [hdiv] at hd; cases hd) (fun hs => by rw [hsh] at hs; cases hs)
        exact .now h hf (arcase hc)

theorem binU_den {P : Program} {op : BinOp} {j kd : IntKind} {a b : Nat} {v : AV} (h : binU op j a b = some v) (hk : isShift op = true ∨ j = kd) (ha : a < modOf j) (hb : b < modOf kd) (hs : isShift op = true → sgn kd b = (b : Int)) (t : TypeId) (xo yo : Operand) :
    Bin2 P E v (.int j a) (.int kd b) (opRun op t xo yo) := by
  intro E' x y _ hx hy
  rw [(den_int hx).2, (den_int hy).2]
  unfold binU at h
  cases hc : isCmp op with
  | true =>
    rw [hc, bif_true] at h
    obtain ⟨r, hr, h⟩ := obind_inv h
    cases h
    obtain rfl := hk.resolve_left (by cases op <;> first | (cases hc; done) | decide)
    exact ⟨_, rfl, fun w => by simp only [opRun, Sem.run_bind, guard_int, Result.andThen_ok]; exact zcm_run (cmU_zcm hr ha hb) t w⟩
  | false =>
    rw [hc, bif_false] at h
    obtain ⟨c, hr, h⟩ := obind_inv h
    cases h
    obtain ⟨h1, h2⟩ := arU_zar (y := sgn kd b) hr ha (fun hns => by
      obtain rfl := hk.resolve_left (by rw [hns]; decide)
      exact ⟨hb, rfl⟩) hs
    exact ⟨_, den_int_of h1, fun w => by simp only [opRun, Sem.run_bind, guard_int, Result.andThen_ok]; exact zar_run h2 hk t w⟩

theorem binI_inv {P : Program} {op : BinOp} {j : IntKind} {a : Nat} {q : AV} (h : (binI op j a st k q).holds Θ E.va R) (hf : FOK E.va st.facts) (hop : okv E (.int j a)) (hoq : okv E q) (t : TypeId) (xo yo : Operand) :
    Bin2Out P Θ R E st k (.int j a) q (opRun op t xo yo) := by
  unfold binI at h
  split at h
  · rename_i kd b
    obtain ⟨x, hx⟩ := hop
    have ha := (den_int hx).1
    obtain ⟨y, hy⟩ := id hoq
    have hb := (den_int hy).1
    obtain ⟨hk, h⟩ := vif_inv h
    have hk : isShift op = true ∨ j = kd := by
      rcases Bool.or_eq_true_iff.1 hk with h1 | h1
      · exact .inl h1
      · exact .inr (kbeq_eq h1)
    rcases bif_holds h with ⟨hs, h⟩ | ⟨hs, h⟩
    · obtain ⟨b', hb', h2⟩ := vbind_inv h
      obtain ⟨kd', e1, e2, _⟩ := natOf_inv hb' hoq
      cases e1
      obtain ⟨v, hv, h3⟩ := outK_inv h2
      exact .now h3 hf (binU_den hv hk ha hb (fun _ => e2) t xo yo)
    · obtain ⟨v, hv, h⟩ := outK_inv h
      exact .now h hf (binU_den hv hk ha hb (fun hs' => by rw [hs] at hs'; cases hs') t xo yo)
  · exact binT_inv h hf rfl rfl hop hoq t xo yo
  · exact h.elim
theorem binS_inv {P : Program} {op : BinOp} {j : IntKind} {x : T} {q : AV} (h : (binS op j x st k q).holds Θ E.va R) (hf : FOK E.va st.facts) (hop : okv E (.sym j x)) (hoq : okv E q) (t : TypeId) (xo yo : Operand) :
    Bin2Out P Θ R E st k (.sym j x) q (opRun op t xo yo) := by
  unfold binS at h
  split at h
  · exact binT_inv h hf rfl rfl hop hoq t xo yo
  · exact binT_inv h hf rfl rfl hop hoq t xo yo
  · exact h.elim

/-! ### The same or not -/
theorem isNo_eq {α : Type} (o : Option α) : isNo o = o.isNone := by cases o <;> rfl
theorem den_ptr' {x : Option AAddr} {y : Value} (h : (AV.ptr x).den E = some y) : ∃ ad, y = .pointer ad ∧ ad.isNone = x.isNone := by
  cases x with
  | none => simp only [AV.den, Option.some.injEq] at h; exact ⟨none, h.symm, rfl⟩
  | some x => obtain ⟨ad, _, h2⟩ := den_ptr h; exact ⟨some ad, h2, rfl⟩
theorem den_slice_inv {x : Option AAddr} {n : Nat} {c : Cap} {y : Value} (h : (AV.slice x n c).den E = some y) :
    (x = none ∧ n = 0 ∧ c = .k 0 ∧ y = .slice none 0 0) ∨ ∃ p ad cp, x = some p ∧ aden E p = some ad ∧ cden E c = some cp ∧ n ≤ cp ∧ y = .slice (some ad) n cp := by
  cases x with
  | none =>
    cases c with
    | k c =>
      simp only [AV.den] at h
      split at h
      · rename_i e; cases h; exact .inl ⟨rfl, e.1, by rw [e.2], rfl⟩
      · cases h
    | u _ _ => cases h
    | t _ => cases h
  | some p =>
    simp only [AV.den] at h
    split at h
    · rename_i ad cp h1 h2
      split at h
      · rename_i h3; cases h; exact .inr ⟨p, ad, cp, rfl, h1, h2, h3, rfl⟩
      · cases h
    · cases h
theorem den_slice' {x : Option AAddr} {n : Nat} {c : Cap} {y : Value} (h : (AV.slice x n c).den E = some y) : ∃ ad cp, y = .slice ad n cp ∧ ad.isNone = x.isNone := by
  rcases den_slice_inv h with ⟨rfl, rfl, _, rfl⟩ | ⟨p, ad, cp, rfl, _, _, _, rfl⟩
  · exact ⟨none, _, rfl, rfl⟩
  · exact ⟨some ad, _, rfl, rfl⟩
theorem den_sl0 {p : AAddr} {i n d : Nat} {y : Value} (h : (AV.sl0 p i n d).den E = some y) : ∃ x c, aden E p = some x ∧ E.caps[i]? = some c ∧ n ≤ c ∧ y = .slice (some (if c = n then x else x.add d)) 0 (c - n) := by
  simp only [AV.den] at h
  split at h
  · rename_i x c h1 h2
    split at h
    · rename_i h3; cases h; exact ⟨x, c, h1, h2, h3, rfl⟩
    · cases h
  · cases h
theorem den_map' {x : Option Nat} {y : Value} (h : (AV.map x).den E = some y) : (x = none ∧ y = .map none) ∨ ∃ r id, x = some r ∧ E.m[r]? = some (some (id, 0)) ∧ y = .map (some id) := by
  cases x with
  | none => simp only [AV.den, Option.some.injEq] at h; exact .inl ⟨rfl, h.symm⟩
  | some r =>
    simp only [AV.den] at h
    split at h
    · rename_i id hid; cases h; exact .inr ⟨r, id, rfl, hid, rfl⟩
    · cases h
theorem den_func' {f : Fn} {l r : List AV} {y : Value} (h : (AV.func f l r).den E = some y) : ∃ xs ys, denL E l = some xs ∧ denL E r = some ys ∧ y = .func f xs.toArray ys.toArray := by
  simp only [AV.den] at h
  split at h
  · rename_i x z h1 h2; cases h; exact ⟨x, z, h1, h2, rfl⟩
  · cases h
theorem den_yld {l : Nat} {y : Value} (h : (AV.yld l).den E = some y) : ∃ id, E.m[l]? = some (some (id, 0)) ∧ y = .func (.yield id) #[] #[] := by
  simp only [AV.den] at h
  split at h
  · rename_i id hid; cases h; exact ⟨id, hid, rfl⟩
  · cases h
theorem den_iface' {t : TypeId} {v : AV} {y : Value} (h : (AV.iface t v).den E = some y) : ∃ x, v.den E = some x ∧ y = .iface t x := by
  simp only [AV.den, Option.map_eq_some_iff] at h
  obtain ⟨x, h1, h2⟩ := h
  exact ⟨x, h1, h2.symm⟩

def okShape : Value → Bool
  | .int .. | .float .. | .complex .. | .string _ | .agg _ => false
  | _ => true
theorem eqD_shape {c : Bool} {d : TypeDesc} {x y : AV} {b : Bool} (h : eqD c d x y = some b) {p q : Value} (hp : x.den E = some p) (hq : y.den E = some q) :
    okShape p = true ∧ (p = .nilIface → q = .nilIface → c = true) := by
  have sl : ∀ {x : Option AAddr} {n : Nat} {c' : Cap} {p q : Value}, (AV.slice x n c').den E = some p → okShape p = true ∧ (p = .nilIface → q = .nilIface → c = true) := by
    intro x n c' p q hp
    obtain ⟨a1, c1, rfl, h1⟩ := den_slice' hp; exact ⟨rfl, fun h => by cases h⟩
  unfold eqD at h
  split at h
  · split at h
    · simp only [AV.den, Option.some.injEq] at hp; subst hp; exact ⟨rfl, fun h => by cases h⟩
    · obtain ⟨ad, _, rfl⟩ := den_ptr hp; exact ⟨rfl, fun h => by cases h⟩
    · cases h
  · split at h
    · exact sl hp
    · exact sl hp
    · obtain ⟨_, _, _, _, _, rfl⟩ := den_sl0 hp; exact ⟨rfl, fun h => by cases h⟩
    · exact sl hp
    · cases h
  · split at h
    · rcases den_map' hp with ⟨_, rfl⟩ | ⟨_, _, _, _, rfl⟩ <;> exact ⟨rfl, fun h => by cases h⟩
    · rcases den_map' hp with ⟨_, rfl⟩ | ⟨_, _, _, _, rfl⟩ <;> exact ⟨rfl, fun h => by cases h⟩
    · cases h
  · split at h
    · simp only [AV.den, Option.some.injEq] at hp; subst hp; exact ⟨rfl, fun h => by cases h⟩
    · simp only [AV.den, Option.some.injEq] at hp; subst hp; exact ⟨rfl, fun h => by cases h⟩
    · obtain ⟨_, _, _, _, rfl⟩ := den_func' hp; exact ⟨rfl, fun h => by cases h⟩
    · simp only [AV.den, Option.some.injEq] at hp; subst hp; exact ⟨rfl, fun h => by cases h⟩
    · obtain ⟨_, _, rfl⟩ := den_yld hp; exact ⟨rfl, fun h => by cases h⟩
    · cases h
  · split at h
    · obtain ⟨hc, _⟩ := bif_some h
      simp only [AV.den, Option.some.injEq] at hp; subst hp; exact ⟨rfl, fun _ _ => hc⟩
    · simp only [AV.den, Option.some.injEq] at hp; subst hp
      obtain ⟨xs, _, rfl⟩ := den_iface' hq
      exact ⟨rfl, fun _ h => by cases h⟩
    · obtain ⟨xs, _, rfl⟩ := den_iface' hp; exact ⟨rfl, fun h => by cases h⟩
    · cases h
  · cases h
theorem eqD_sound {P : Program} {c : Bool} {d : TypeDesc} {x y : AV} {b : Bool} (h : eqD c d x y = some b) {t : TypeId} (ht : P.underlying t = some d) {p q : Value} (hp : x.den E = some p) (hq : y.den E = some q) (n : Nat) (w : World) :
    (Op.equalIn (n + 1) t p q).run P w = .ok b w := by
  have hu := run_underlying ht w
  unfold eqD at h
  split at h
  · split at h
    · cases h
      simp only [AV.den, Option.some.injEq] at hp; subst hp
      obtain ⟨ad, rfl, h2⟩ := den_ptr' hq
      simp [Op.equalIn, hu, isNo_eq, h2]
    · cases h
      obtain ⟨ad, _, rfl⟩ := den_ptr hp
      simp only [AV.den, Option.some.injEq] at hq; subst hq
      simp [Op.equalIn, hu]
    · cases h
  · split at h
    · cases h
      obtain ⟨a1, c1, rfl, h1⟩ := den_slice' hp
      obtain ⟨ad, c2, rfl, h2⟩ := den_slice' hq
      cases a1 with
      | some _ => cases h1
      | none => simp [Op.equalIn, hu, isNo_eq, h2]
    · cases h
      obtain ⟨a1, c1, rfl, h1⟩ := den_slice' hp
      obtain ⟨ad, c2, rfl, h2⟩ := den_slice' hq
      cases a1 with
      | none => cases h1
      | some _ => cases ad with
        | some _ => cases h2
        | none => simp [Op.equalIn, hu]
    · cases h
      obtain ⟨_, _, _, _, _, rfl⟩ := den_sl0 hp
      obtain ⟨ad, c2, rfl, h2⟩ := den_slice' hq
      cases ad with
      | some _ => cases h2
      | none => simp [Op.equalIn, hu]
    · cases h
      obtain ⟨_, _, _, _, _, rfl⟩ := den_sl0 hq
      obtain ⟨ad, c2, rfl, h2⟩ := den_slice' hp
      cases ad with
      | some _ => cases h2
      | none => simp [Op.equalIn, hu]
    · cases h
  · split at h
    · cases h
      simp only [AV.den, Option.some.injEq] at hp; subst hp
      rcases den_map' hq with ⟨rfl, rfl⟩ | ⟨_, _, rfl, _, rfl⟩ <;> simp [Op.equalIn, hu, isNo_eq]
    · cases h
      simp only [AV.den, Option.some.injEq] at hq; subst hq
      rcases den_map' hp with ⟨e, rfl⟩ | ⟨_, _, e, _, rfl⟩
      · cases e
      · simp [Op.equalIn, hu]
    · cases h
  · split at h
    · cases h
      simp only [AV.den, Option.some.injEq] at hp hq; subst hp hq
      simp [Op.equalIn, hu]
    · cases h
      simp only [AV.den, Option.some.injEq] at hp; subst hp
      obtain ⟨xs, ys, _, _, rfl⟩ := den_func' hq
      simp [Op.equalIn, hu]
    · cases h
      simp only [AV.den, Option.some.injEq] at hq; subst hq
      obtain ⟨xs, ys, _, _, rfl⟩ := den_func' hp
      simp [Op.equalIn, hu]
    · cases h
      simp only [AV.den, Option.some.injEq] at hp; subst hp
      obtain ⟨_, _, rfl⟩ := den_yld hq
      simp [Op.equalIn, hu]
    · cases h
      simp only [AV.den, Option.some.injEq] at hq; subst hq
      obtain ⟨_, _, rfl⟩ := den_yld hp
      simp [Op.equalIn, hu]
    · cases h
  · split at h
    · obtain ⟨_, h⟩ := bif_some h
      cases h
      simp only [AV.den, Option.some.injEq] at hp hq; subst hp hq
      simp [Op.equalIn, hu]
    · cases h
      simp only [AV.den, Option.some.injEq] at hp; subst hp
      obtain ⟨xs, _, rfl⟩ := den_iface' hq
      simp [Op.equalIn, hu]
    · cases h
      simp only [AV.den, Option.some.injEq] at hq; subst hq
      obtain ⟨xs, _, rfl⟩ := den_iface' hp
      simp [Op.equalIn, hu]
    · cases h
  · cases h
theorem binOp_eql (t : TypeId) {p : Value} (q : Value) (h : okShape p = true) : Go.binOp .eql t p q = (do pure (.bool (← Op.equal t p q))) := by
  cases p <;> first | (cases h; done) | (cases q <;> rfl)
theorem binOp_neq (t : TypeId) {p : Value} (q : Value) (h : okShape p = true) : Go.binOp .neq t p q = (do pure (.bool (!(← Op.equal t p q)))) := by
  cases p <;> first | (cases h; done) | (cases q <;> rfl)
theorem eqGuard_ok {P : Program} (op : BinOp) (t : TypeId) (x y : Operand) {p q : Value} (h : okShape p = true) (hn : p = .nilIface → q = .nilIface → (isConst x || isConst y) = true) (w : World) :
    (eqGuard op t x y p q).run P w = .ok () w := by
  unfold eqGuard
  cases p <;> cases q <;> first | (cases h; done) | (cases op <;> simp; done) | skip
  have := hn rfl rfl
  cases x <;> cases y <;> first | (simp [isConst] at this; done) | (cases op <;> simp)
/-- The two operators that ask for no order. -/
theorem binFn_run {P : Program} {op : BinOp} {r : Bool} {v : AV} (h : binFn op r = some v) {t : TypeId} {p q : Value} {w : World} (hsh : okShape p = true ∨ ∃ c, p = .agg c) (heq : (Op.equal t p q).run P w = .ok r w) :
    ∃ b, v = .bool b ∧ (Go.binOp op t p q).run P w = .ok (.bool b) w := by
  have e1 : Go.binOp .eql t p q = (do pure (.bool (← Op.equal t p q))) := by
    rcases hsh with h | ⟨c, rfl⟩
    · exact binOp_eql t q h
    · cases q <;> rfl
  have e2 : Go.binOp .neq t p q = (do pure (.bool (!(← Op.equal t p q)))) := by
    rcases hsh with h | ⟨c, rfl⟩
    · exact binOp_neq t q h
    · cases q <;> rfl
  unfold binFn at h
  split at h
  · cases h; exact ⟨_, rfl, by rw [e1]; simp [heq]⟩
  · cases h; exact ⟨_, rfl, by rw [e2]; simp [heq]⟩
  · cases h
end
end Go.Sy
/-! Operators: structs, arrays, texts, truths; all of them. -/
namespace Go.Sy
section
variable {X : Tabs} {K : Nat → Prop} {w0 : World} {E : Env} {st : St} {w : World} {Θ : Pred} {R : List Back} {tm : Tm} {k : Kt} {o : Oper}

/-- What a cell is as a literal. -/
def litRel (ρ : Va) (v : AV) (l : Lit) : Prop := match v, l with
  | .bool a, .bool b => a = b
  | .cnd t, .bool b => t.ev ρ = some (.b b)
  | .int k u, .int j n => k = j ∧ n = sgn k u ∧ u < modOf k
  | .sym k t, .int j n => k = j ∧ t.ev ρ = some (.i n)
  | .str _ s, .string l => l = s.map UInt8.ofNat ∧ ∀ c ∈ s, c < 256
  | _, _ => False
def litRels (ρ : Va) : List AV → List Lit → Prop
  | [], [] => True
  | a :: l, b :: m => litRel ρ a b ∧ litRels ρ l m
  | _, _ => False
theorem litRels_append {ρ : Va} {b : List AV} {y : List Lit} : ∀ {a : List AV} {x : List Lit}, litRels ρ a x → litRels ρ b y → litRels ρ (a ++ b) (x ++ y)
  | [], [], _, h => h
  | _ :: _, _ :: _, h, h' => ⟨h.1, litRels_append h.2 h'⟩
  | [], _ :: _, h, _ => h.elim
  | _ :: _, [], h, _ => h.elim
theorem litRel_mono {ρ ρ' : Va} (h : ρ.Le ρ') {v : AV} {l : Lit} (hr : litRel ρ v l) : litRel ρ' v l := by
  unfold litRel at *
  split at hr
  · exact hr
  · exact ev_mono h hr
  · exact hr
  · exact ⟨hr.1, ev_mono h hr.2⟩
  · exact hr
  · exact hr.elim
theorem litRel_same {ρ : Va} {v : AV} {l m : Lit} (h : litRel ρ v l) (h' : litRel ρ v m) : l = m := by
  cases v <;> cases l <;> simp only [litRel] at h <;> cases m <;> simp only [litRel] at h'
  · rw [← h, ← h']
  · rw [← h.1, ← h'.1, h.2.1, h'.2.1]
  · have := h.2; rw [h'.2] at this; cases this; rw [← h.1, ← h'.1]
  · rw [h] at h'; cases h'; rfl
  · rw [h.1, h'.1]
theorem litRels_same {ρ : Va} : ∀ {v : List AV} {l m : List Lit}, litRels ρ v l → litRels ρ v m → l = m
  | [], [], [], _, _ => rfl
  | _ :: _, _ :: _, _ :: _, h, h' => by rw [litRel_same h.1 h'.1, litRels_same h.2 h'.2]
  | [], _ :: _, _, h, _ => h.elim
  | _ :: _, [], _, h, _ => h.elim
  | [], [], _ :: _, _, h => h.elim
  | _ :: _, _ :: _, [], _, h => h.elim
theorem litRels_mono {ρ ρ' : Va} (h : ρ.Le ρ') : ∀ {v : List AV} {l : List Lit}, litRels ρ v l → litRels ρ' v l
  | [], [], _ => trivial
  | _ :: _, _ :: _, hr => ⟨litRel_mono h hr.1, litRels_mono h hr.2⟩
  | [], _ :: _, h => h.elim
  | _ :: _, [], h => h.elim

theorem kn_inj {j k : IntKind} (h : litK.kn j = litK.kn k) : j = k := by cases j <;> cases k <;> first | rfl | (simp [litK.kn] at h)
theorem kn_lt (k : IntKind) : litK.kn k < 8 := by cases k <;> decide
theorem denL_one1 {v : AV} {xs : List Value} (h : denL E [v] = some xs) : ∃ x, v.den E = some x ∧ xs = [x] := by
  obtain ⟨p, q, hp, hq, rfl⟩ := denL_cons.1 h
  rw [denL_nil.1 hq]; exact ⟨p, hp, rfl⟩
theorem litK_bool {l L : List AV} {xs : List Value} (h : litK 0 l = some L) (hx : denL E l = some xs) : ∃ b, xs = [.bool b] ∧ litRels E.va L [.bool b] := by
  unfold litK at h
  split at h
  · rw [beq_iff] at h; cases h
    obtain ⟨x, h1, rfl⟩ := denL_one1 hx
    cases h1; exact ⟨_, rfl, rfl, trivial⟩
  · rw [beq_iff] at h; cases h
    obtain ⟨x, h1, rfl⟩ := denL_one1 hx
    obtain ⟨b, h2, rfl⟩ := den_cnd h1
    exact ⟨_, rfl, h2, trivial⟩
  · cases h
  · cases h
  · cases h
  · cases h
theorem litK_int {q : IntKind} {l L : List AV} {xs : List Value} (h : litK (Nat.succ (litK.kn q)) l = some L) (hx : denL E l = some xs) : ∃ n, xs = [.int q n] ∧ litRels E.va L [.int q n] ∧ (Lit.int q n).wf = true := by
  unfold litK at h
  split at h
  · cases h
  · cases h
  · obtain ⟨h1, h⟩ := bif_some h
    cases h
    rw [beq_iff, decide_eq_true_eq] at h1
    have := kn_inj (Nat.succ.inj h1); subst this
    obtain ⟨x, h1, rfl⟩ := denL_one1 hx
    obtain ⟨h2, rfl⟩ := den_int h1
    exact ⟨_, rfl, ⟨⟨rfl, rfl, h2⟩, trivial⟩, sgn_wf _ h2⟩
  · obtain ⟨h1, h⟩ := bif_some h
    cases h
    rw [beq_iff, decide_eq_true_eq] at h1
    have := kn_inj (Nat.succ.inj h1); subst this
    obtain ⟨x, h1, rfl⟩ := denL_one1 hx
    obtain ⟨n, h2, h3, rfl⟩ := den_sym h1
    exact ⟨_, rfl, ⟨⟨rfl, h2⟩, trivial⟩, h3⟩
  · obtain ⟨h1, h⟩ := bif_some h
    simp only [Bool.and_eq_true, beq_iff, decide_eq_true_eq] at h1
    have := kn_lt q
    have h3 := h1.1
    rw [natSucc] at h3; omega
  · cases h
theorem litK_str {l L : List AV} {xs : List Value} (h : litK 9 l = some L) (hx : denL E l = some xs) : ∃ s, xs = [.string s] ∧ litRels E.va L [.string s.data.toList] ∧ s.size ≤ maxLen := by
  unfold litK at h
  split at h
  · cases h
  · cases h
  · obtain ⟨h1, h⟩ := bif_some h
    rw [beq_iff, decide_eq_true_eq] at h1
    rename_i kd _ _
    have := kn_lt kd
    rw [natSucc] at h1; omega
  · obtain ⟨h1, h⟩ := bif_some h
    rw [beq_iff, decide_eq_true_eq] at h1
    rename_i kd _ _
    have := kn_lt kd
    rw [natSucc] at h1; omega
  · obtain ⟨h1, h⟩ := bif_some h
    cases h
    simp only [Bool.and_eq_true, ble_iff, decide_eq_true_eq] at h1
    obtain ⟨x, h2, rfl⟩ := denL_one1 hx
    obtain ⟨h3, h4, rfl⟩ := den_str h2
    refine ⟨_, rfl, ⟨⟨rfl, h4⟩, trivial⟩, ?_⟩
    rw [bytesOf_size, ← h3]; have := h1.2; simp [maxLen]; omega
  · cases h
theorem catO_inv {a b : Option (List AV)} {L : List AV} (h : catO a b = some L) : ∃ x y, a = some x ∧ b = some y ∧ L = x ++ y := by
  obtain ⟨x, hx, h⟩ := obind_inv h
  obtain ⟨y, hy, h⟩ := obind_inv h
  cases h
  exact ⟨x, y, hx, hy, rfl⟩
theorem mapM_map_opt {α β γ : Type} (g : α → β) (f : β → Option γ) : ∀ l : List α, (l.map g).mapM f = l.mapM fun x => f (g x)
  | [] => rfl
  | x :: l => by
    simp only [List.map_cons, List.mapM_cons]
    rw [mapM_map_opt g f l]
theorem litsA_sound {ρ : Va} {rec : TypeId → List AV → Option (List AV)} {e : TypeId} {s : Nat} {f : List Value → Option (List Lit)}
    (hrec : ∀ {cs L : List AV} {xs : List Value}, rec e cs = some L → denL E cs = some xs → ∃ M, f xs = some M ∧ litRels ρ L M) :
    ∀ (n : Nat) {cs L : List AV} {xs : List Value}, litsA rec e n s cs = some L → denL E cs = some xs →
      ∃ M, ((List.range n).mapM fun i => f ((xs.drop (i * s)).take s)).map List.flatten = some M ∧ litRels ρ L M
  | 0, cs, L, xs, h, hx => by
    cases h
    exact ⟨[], rfl, trivial⟩
  | n + 1, cs, L, xs, h, hx => by
    change catO (rec e (takeL s cs)) (litsA rec e n s (dropL s cs)) = some L at h
    obtain ⟨u, v, h1, h2, rfl⟩ := catO_inv h
    rw [takeL_eq] at h1
    rw [dropL_eq] at h2
    obtain ⟨M1, g1, r1⟩ := hrec h1 (denL_take s hx)
    obtain ⟨M2, g2, r2⟩ := litsA_sound hrec n h2 (denL_drop s hx)
    simp only [Option.map_eq_some_iff] at g2
    obtain ⟨ls, g2, g3⟩ := g2
    rw [List.range_succ_eq_map, List.mapM_cons, mapM_map_opt]
    have e1 : (fun i => f ((xs.drop ((Nat.succ i) * s)).take s)) = fun i => f (((xs.drop s).drop (i * s)).take s) := by
      funext i
      rw [List.drop_drop, Nat.succ_mul, Nat.add_comm]
    rw [e1, g2]
    exact ⟨M1 ++ M2, by simp [g1, g3], litRels_append r1 r2⟩
theorem litsF_sound {ρ : Va} {size : Tr Nat} {rec : TypeId → List AV → Option (List AV)} {g : TypeId → List Value → Option (List Lit)} {cs : List AV} {xs : List Value} (hx : denL E cs = some xs)
    {cells : TypeId → Nat} (hs : ∀ t s, size.get t = some s → cells t = s) :
    ∀ {fs : List Field} {L : List AV}, (∀ fd ∈ fs, ∀ {cs L : List AV} {xs : List Value}, rec fd.type cs = some L → denL E cs = some xs → ∃ M, g fd.type xs = some M ∧ litRels ρ L M) → litsF size rec cs fs = some L →
      ∃ M, (fs.mapM fun fd => g fd.type ((xs.drop fd.offset).take (cells fd.type))).map List.flatten = some M ∧ litRels ρ L M
  | [], L, _, h => by cases h; exact ⟨[], rfl, trivial⟩
  | fd :: fs, L, hrec, h => by
    change catO (obind (size.get fd.type) fun s => rec fd.type (takeL s (dropL fd.offset cs))) (litsF size rec cs fs) = some L at h
    obtain ⟨u, v, h1, h2, rfl⟩ := catO_inv h
    obtain ⟨s, hsz, h1⟩ := obind_inv h1
    rw [takeL_eq, dropL_eq] at h1
    obtain ⟨M1, g1, r1⟩ := hrec fd (by simp) h1 (denL_take s (denL_drop fd.offset hx))
    obtain ⟨M2, g2, r2⟩ := litsF_sound hx hs (fun x hx => hrec x (List.mem_cons_of_mem _ hx)) h2
    simp only [Option.map_eq_some_iff] at g2
    obtain ⟨ls, g2, g3⟩ := g2
    rw [List.mapM_cons, hs _ _ hsz, g1, g2]
    exact ⟨M1 ++ M2, by simp [g3], litRels_append r1 r2⟩
theorem litsT_sound (hc : CxOK X K w0) : ∀ (d : Nat) {t : TypeId} {cs L : List AV} {xs : List Value}, litsT X.cx d t cs = some L → X.P.keyTypeAt d t = true → denL E cs = some xs → ∃ M, X.P.keyLits d t xs = some M ∧ litRels E.va L M
  | 0, t, cs, L, xs, h, _, _ => by cases h
  | d + 1, t, cs, L, xs, h, hk, hx => by
    change obind (X.cx.und.get t) (fun dd => obind (X.cx.size.get t) fun len => litsD X.cx (litsT X.cx d) len cs dd) = some L at h
    obtain ⟨dd, hd, h⟩ := obind_inv h
    obtain ⟨len, hlen, h⟩ := obind_inv h
    have hu := hc.und t dd hd
    have hcells : ∀ t s, X.cx.size.get t = some s → X.P.cellsOf t = s := fun t s hs => by
      obtain ⟨i, hi, hn⟩ := hc.size t s hs
      simp [Program.cellsOf, hi, hn]
    unfold Program.keyTypeAt at hk
    simp only [hu] at hk
    unfold Program.keyLits
    simp only [hu]
    unfold litsD at h
    split at h
    · obtain ⟨b, rfl, hr⟩ := litK_bool h hx
      exact ⟨_, rfl, hr⟩
    · obtain ⟨n, rfl, hr, hw⟩ := litK_int h hx
      exact ⟨_, by simp [hw], hr⟩
    · obtain ⟨s, rfl, hr, hw⟩ := litK_str h hx
      exact ⟨_, by simp [hw], hr⟩
    · rename_i n e _
      obtain ⟨hb, h⟩ := bif_some h
      rw [beq_iff, lenL_eq, decide_eq_true_eq] at hb
      obtain ⟨s, hs, h⟩ := obind_inv h
      show ∃ M, (if xs.length = X.P.cellsOf t then _ else _) = some M ∧ _
      rw [if_pos (by rw [denL_length hx, hb, hcells t len hlen])]
      simp only at hk
      have := litsA_sound (f := X.P.keyLits d e) (fun hr hx => litsT_sound hc d hr hk hx) n h hx
      rw [hcells e s hs]
      exact this
    · rename_i fs _
      obtain ⟨hb, h⟩ := bif_some h
      rw [beq_iff, lenL_eq, decide_eq_true_eq] at hb
      simp only [Bool.and_eq_true, Array.all_eq_true'] at hk
      show ∃ M, (if xs.length = X.P.cellsOf t ∧ (fs.all fun x => x.name != "_") = true then _ else _) = some M ∧ _
      rw [if_pos ⟨by rw [denL_length hx, hb, hcells t len hlen], by
        rw [Array.all_eq_true']
        intro f hf
        exact (hk.1.1 f hf).1⟩]
      exact litsF_sound (g := X.P.keyLits d) hx hcells (fun fd hfd => fun hr hx => litsT_sound hc d hr (hk.1.1 fd (by simpa using hfd)).2 hx) h
    · cases h
theorem litsT_len (hc : CxOK X K w0) {d : Nat} {t : TypeId} {cs L : List AV} {xs : List Value} (h : litsT X.cx d t cs = some L) (hw : (match X.P.underlying t with | some (.array _ _) | some (.struct _) => true | _ => false) = true) (hx : denL E cs = some xs) :
    (Value.agg xs.toArray).formed X.P t = true := by
  cases d with
  | zero => cases h
  | succ d =>
    change obind (X.cx.und.get t) (fun dd => obind (X.cx.size.get t) fun len => litsD X.cx (litsT X.cx d) len cs dd) = some L at h
    obtain ⟨dd, hd, h⟩ := obind_inv h
    obtain ⟨len, hlen, h⟩ := obind_inv h
    have hu := hc.und t dd hd
    have hcells : X.P.cellsOf t = len := by
      obtain ⟨i, hi, hn⟩ := hc.size t len hlen
      simp [Program.cellsOf, hi, hn]
    rw [hu] at hw
    unfold litsD at h
    split at h
    · cases hw
    · cases hw
    · cases hw
    · obtain ⟨hb, h⟩ := bif_some h
      rw [beq_iff, lenL_eq, decide_eq_true_eq] at hb
      simp [Value.formed, hu, denL_length hx, hb, hcells]
    · obtain ⟨hb, h⟩ := bif_some h
      rw [beq_iff, lenL_eq, decide_eq_true_eq] at hb
      simp [Value.formed, hu, denL_length hx, hb, hcells]
    · cases h

/-! ### Lists of bytes -/
theorem leqL_eq : ∀ (a b : List Nat), leqL a b = decide (a = b)
  | [], [] => rfl
  | [], _ :: _ => rfl
  | _ :: _, [] => rfl
  | a :: l, b :: m => by
    simp only [leqL]
    rw [beq_iff]
    by_cases e : a = b
    · subst e; rw [decide_eq_true rfl, bif_true, leqL_eq l m]; simp
    · rw [decide_eq_false e, bif_false]; symm; rw [decide_eq_false_iff_not]; intro h; exact e (List.cons.inj h).1
theorem map_u8_inj : ∀ {a b : List Nat}, (∀ c ∈ a, c < 256) → (∀ c ∈ b, c < 256) → a.map UInt8.ofNat = b.map UInt8.ofNat → a = b
  | [], [], _, _, _ => rfl
  | [], _ :: _, _, _, h => by cases h
  | _ :: _, [], _, _, h => by cases h
  | x :: a, y :: b, h1, h2, h => by
    simp only [List.map_cons, List.cons.injEq] at h
    have e := congrArg UInt8.toNat h.1
    rw [toU8 (h1 x (by simp)), toU8 (h2 y (by simp))] at e
    rw [e, map_u8_inj (fun c hc => h1 c (List.mem_cons_of_mem _ hc)) (fun c hc => h2 c (List.mem_cons_of_mem _ hc)) h.2]

/-! ### Two cells -/
theorem brK_two {c : T} {y n : St → VC} {b : Bool} (h : (brK c st y n).holds Θ E.va R) (hf : FOK E.va st.facts) (hc : c.ev E.va = some (.b b)) :
    ∃ f, FOK E.va f ∧ ((b = true ∧ (y (st.withF f)).holds Θ E.va R) ∨ (b = false ∧ (n (st.withF f)).holds Θ E.va R)) := brK_inv h hf hc
theorem litRel_toT {ρ : Va} {a : AV} {p : IntKind × T} {l : Lit} (h : toT a = some p) (hl : litRel ρ a l) : ∃ n, l = .int p.1 n ∧ p.2.ev ρ = some (.i n) := by
  unfold toT at h
  split at h
  · cases h
    cases l <;> simp only [litRel] at hl
    exact ⟨_, by rw [hl.1], by rw [hl.2.1]; rfl⟩
  · cases h
    cases l <;> simp only [litRel] at hl
    exact ⟨_, by rw [hl.1], hl.2⟩
  · cases h
theorem eqAt_inv {a b : AV} {y n : St → VC} (h : (eqAt a b st y n).holds Θ E.va R) (hf : FOK E.va st.facts) {l m : Lit} (hl : litRel E.va a l) (hm : litRel E.va b m) :
    ∃ f, FOK E.va f ∧ ((l = m ∧ (y (st.withF f)).holds Θ E.va R) ∨ (l ≠ m ∧ (n (st.withF f)).holds Θ E.va R)) := by
  have self : ∀ {K : St → VC}, (K st).holds Θ E.va R → (K (st.withF st.facts)).holds Θ E.va R := fun h => by rw [withF_self]; exact h
  unfold eqAt at h
  split at h
  · rename_i a b
    cases l <;> simp only [litRel] at hl
    cases m <;> simp only [litRel] at hm
    subst hl; subst hm
    refine ⟨st.facts, hf, ?_⟩
    rw [bbeq_eq] at h
    rcases bif_holds h with ⟨e, h⟩ | ⟨e, h⟩
    · exact .inl ⟨by rw [of_decide_eq_true e], self h⟩
    · exact .inr ⟨fun h => by cases h; simp at e, self h⟩
  · rename_i a c
    cases l <;> simp only [litRel] at hl
    cases m <;> simp only [litRel] at hm
    subst hl
    cases a with
    | true =>
      obtain ⟨f, hf', h⟩ := brK_two h hf hm
      refine ⟨f, hf', h.imp (fun ⟨e, h⟩ => ⟨by rw [e], h⟩) (fun ⟨e, h⟩ => ⟨by rw [e]; simp, h⟩)⟩
    | false =>
      obtain ⟨f, hf', h⟩ := brK_two h hf hm
      refine ⟨f, hf', h.symm.imp (fun ⟨e, h⟩ => ⟨by rw [e], h⟩) (fun ⟨e, h⟩ => ⟨by rw [e]; simp, h⟩)⟩
  · rename_i c b
    cases l <;> simp only [litRel] at hl
    cases m <;> simp only [litRel] at hm
    subst hm
    cases b with
    | true =>
      obtain ⟨f, hf', h⟩ := brK_two h hf hl
      refine ⟨f, hf', h.imp (fun ⟨e, h⟩ => ⟨by rw [e], h⟩) (fun ⟨e, h⟩ => ⟨by rw [e]; simp, h⟩)⟩
    | false =>
      obtain ⟨f, hf', h⟩ := brK_two h hf hl
      refine ⟨f, hf', h.symm.imp (fun ⟨e, h⟩ => ⟨by rw [e], h⟩) (fun ⟨e, h⟩ => ⟨by rw [e]; simp, h⟩)⟩
  · rename_i c d
    cases l <;> simp only [litRel] at hl
    cases m <;> simp only [litRel] at hm
    obtain ⟨f, hf', h⟩ := brK_two h hf hl
    rcases h with ⟨e, h⟩ | ⟨e, h⟩
    · obtain ⟨g, hg, h⟩ := brK_inv h (by rw [withF_facts]; exact hf') hm
      simp only [withF_withF] at h
      exact ⟨g, hg, h.imp (fun ⟨e', h⟩ => ⟨by rw [e, e'], h⟩) (fun ⟨e', h⟩ => ⟨by rw [e, e']; simp, h⟩)⟩
    · obtain ⟨g, hg, h⟩ := brK_inv h (by rw [withF_facts]; exact hf') hm
      simp only [withF_withF] at h
      exact ⟨g, hg, h.symm.imp (fun ⟨e', h⟩ => ⟨by rw [e, e'], h⟩) (fun ⟨e', h⟩ => ⟨by rw [e, e']; simp, h⟩)⟩
  · rename_i j a kd b
    cases l <;> simp only [litRel] at hl
    cases m <;> simp only [litRel] at hm
    obtain ⟨hk, h1⟩ := vif_inv h
    have hjk := kbeq_eq hk
    subst hjk
    obtain ⟨rfl, rfl, ha⟩ := hl
    obtain ⟨rfl, rfl, hb⟩ := hm
    refine ⟨st.facts, hf, ?_⟩
    rw [beq_iff] at h1
    rcases bif_holds h1 with ⟨e, h2⟩ | ⟨e, h2⟩
    · exact .inl ⟨by rw [of_decide_eq_true e], self h2⟩
    · exact .inr ⟨fun hh => of_decide_eq_false e (sgn_inj _ ha hb (by injection hh)), self h2⟩
  · rename_i s _ t
    cases l <;> simp only [litRel] at hl
    cases m <;> simp only [litRel] at hm
    obtain ⟨rfl, ha⟩ := hl
    obtain ⟨rfl, hb⟩ := hm
    refine ⟨st.facts, hf, ?_⟩
    rw [leqL_eq] at h
    rcases bif_holds h with ⟨e, h⟩ | ⟨e, h⟩
    · exact .inl ⟨by rw [of_decide_eq_true e], self h⟩
    · exact .inr ⟨fun hh => of_decide_eq_false e (map_u8_inj ha hb (by injection hh)), self h⟩
  · obtain ⟨p, hp, h⟩ := vbind_inv h
    obtain ⟨q, hq, h⟩ := vbind_inv h
    obtain ⟨hk, h⟩ := vif_inv h
    obtain ⟨n1, rfl, e1⟩ := litRel_toT hp hl
    obtain ⟨n2, rfl, e2⟩ := litRel_toT hq hm
    rw [kbeq_eq hk]
    obtain ⟨f, hf', h⟩ := brK_inv h hf (r := decide (n1 = n2)) (by rw [mkCmp_ev e1 e2]; rfl)
    exact ⟨f, hf', h.imp (fun ⟨e, h⟩ => ⟨by rw [of_decide_eq_true e], h⟩) (fun ⟨e, h⟩ => ⟨fun h => of_decide_eq_false e (by cases h; rfl), h⟩)⟩
theorem eqAts_inv : ∀ {a b : List AV} {st : St} {y n : St → VC}, (eqAts a b st y n).holds Θ E.va R → FOK E.va st.facts → ∀ {l m : List Lit}, litRels E.va a l → litRels E.va b m →
    ∃ f, FOK E.va f ∧ ((l = m ∧ (y (st.withF f)).holds Θ E.va R) ∨ (l ≠ m ∧ (n (st.withF f)).holds Θ E.va R))
  | [], [], st, y, n, h, hf, [], [], _, _ => ⟨st.facts, hf, .inl ⟨rfl, by rw [withF_self]; exact h⟩⟩
  | [], _ :: _, st, y, n, h, _, _, _, _, _ => h.elim
  | _ :: _, [], st, y, n, h, _, _, _, _, _ => h.elim
  | a :: x, b :: z, st, y, n, h, hf, l :: ls, m :: ms, h1, h2 => by
    change (eqAt a b st (fun st => eqAts x z st y n) n).holds Θ E.va R at h
    obtain ⟨f, hf', h⟩ := eqAt_inv h hf h1.1 h2.1
    rcases h with ⟨e, h⟩ | ⟨e, h⟩
    · obtain ⟨g, hg, h⟩ := eqAts_inv h (by rw [withF_facts]; exact hf') h1.2 h2.2
      simp only [withF_withF] at h
      exact ⟨g, hg, h.imp (fun ⟨e', h⟩ => ⟨by rw [e, e'], h⟩) (fun ⟨e', h⟩ => ⟨fun hh => e' (List.cons.inj hh).2, h⟩)⟩
    · exact ⟨f, hf', .inr ⟨fun hh => e (List.cons.inj hh).1, h⟩⟩
  | [], [], _, _, _, _, _, _ :: _, _, h, _ => h.elim
  | [], [], _, _, _, _, _, [], _ :: _, _, h => h.elim
  | _ :: _, _ :: _, _, _, _, _, _, [], _, h, _ => h.elim
  | _ :: _, _ :: _, _, _, _, _, _, _ :: _, [], _, h => h.elim

theorem binAgg_inv (hc : CxOK X K w0) {op : BinOp} {t : TypeId} {l m : List AV} (h : (binAgg X.cx op t l m st k).holds Θ E.va R) (hf : FOK E.va st.facts) (hl : okv E (.agg l)) (hm : okv E (.agg m)) (xo yo : Operand) :
    Bin2Out X.P Θ R E st k (.agg l) (.agg m) (opRun op t xo yo) := by
  obtain ⟨d, hd, h⟩ := vbind_inv h
  obtain ⟨la, hla, h⟩ := vbind_inv h
  obtain ⟨lb, hlb, h⟩ := vbind_inv h
  obtain ⟨hk, hgt, hle, hw⟩ := hc.eqm t d hd
  obtain ⟨_, hl⟩ := hl
  obtain ⟨xs0, hxs0, _⟩ := den_agg hl
  obtain ⟨_, hm⟩ := hm
  obtain ⟨ys0, hys0, _⟩ := den_agg hm
  obtain ⟨L, _, r1⟩ := litsT_sound hc d hla hk hxs0
  obtain ⟨M, _, r2⟩ := litsT_sound hc d hlb hk hys0
  have hva : E.fill.va = E.va := rfl
  rw [hva] at r1 r2
  have fin : ∀ {r : Bool} {v : AV}, (r = true ↔ L = M) → binFn op r = some v → Bin2 X.P E v (.agg l) (.agg m) (opRun op t xo yo) := by
    intro r v hr hv E' x y hE hx hy
    obtain ⟨xs, hxs, rfl⟩ := den_agg hx
    obtain ⟨ys, hys, rfl⟩ := den_agg hy
    obtain ⟨L', h1, r1'⟩ := litsT_sound hc d hla hk hxs
    obtain ⟨M', h2, r2'⟩ := litsT_sound hc d hlb hk hys
    have e1 := litRels_same r1' (litRels_mono hE.va r1)
    have e2 := litRels_same r2' (litRels_mono hE.va r2)
    subst e1; subst e2
    have heq : ∀ w, (Op.equal t (.agg xs.toArray) (.agg ys.toArray)).run X.P w = .ok r w := by
      intro w
      obtain ⟨r', hr', hiff⟩ := run_equalIn_deep (10000 - d) d t hk w d d (.agg xs.toArray) (.agg ys.toArray) _ _ (litsT_len hc hla hw hxs) (litsT_len hc hlb hw hys) (by simpa [Value.cells] using h1) (by simpa [Value.cells] using h2)
      have : r' = r := by rw [Bool.eq_iff_iff, hiff, hr]
      rw [← this]
      have e : 10000 - d + d = 10000 := by omega
      rw [e] at hr'
      exact hr'
    obtain ⟨b, rfl, _⟩ := binFn_run hv (P := X.P) (p := .agg xs.toArray) (q := .agg ys.toArray) (w := default) (.inr ⟨_, rfl⟩) (heq _)
    refine ⟨_, rfl, fun w => ?_⟩
    obtain ⟨b', e, hrun⟩ := binFn_run hv (P := X.P) (p := .agg xs.toArray) (q := .agg ys.toArray) (w := w) (.inr ⟨_, rfl⟩) (heq w)
    cases e
    have hg : (eqGuard op t xo yo (.agg xs.toArray) (.agg ys.toArray)).run X.P w = .ok () w := by
      unfold eqGuard
      cases op <;> simp [program, Sem.run, hgt]
    simp only [opRun, Sem.run_bind, hg, Result.andThen_ok, hrun]
  obtain ⟨f, hf', h⟩ := eqAts_inv h hf r1 r2
  rcases h with ⟨e, h⟩ | ⟨e, h⟩
  · obtain ⟨v, hv, h⟩ := outK_inv h
    exact ⟨v, f, h, hf', fin (r := true) ⟨fun _ => e, fun _ => rfl⟩ hv⟩
  · obtain ⟨v, hv, h⟩ := outK_inv h
    exact ⟨v, f, h, hf', fin (r := false) ⟨fun h => (by cases h), fun h => absurd h e⟩ hv⟩
end
end Go.Sy
/-! Operators: truths, texts; all of them; conversions; the least and the greatest. -/
namespace Go.Sy
section
variable {X : Tabs} {K : Nat → Prop} {w0 : World} {E : Env} {st : St} {w : World} {Θ : Pred} {R : List Back} {tm : Tm} {k : Kt} {o : Oper}

theorem opRun_bool {P : Program} {op : BinOp} {t : TypeId} {xo yo : Operand} {a b r : Bool} {v : AV} (ht : P.underlying t = some .bool) (hv : binFn op r = some v) (hr : r = decide (a = b)) :
    ∃ c, v = .bool c ∧ ∀ w, (opRun op t xo yo (.bool a) (.bool b)).run P w = .ok (.bool c) w := by
  have heq : ∀ w, (Op.equal t (.bool a) (.bool b)).run P w = .ok r w := by
    intro w
    have key : ∀ n, (Op.equalIn (n + 1) t (.bool a) (.bool b)).run P w = .ok r w := by
      intro n
      simp only [Op.equalIn, Sem.run_bind, run_underlying ht, Result.andThen_ok, Sem.run_pure, hr]
      congr 1
    exact key 9999
  obtain ⟨c, rfl, _⟩ := binFn_run hv (P := P) (p := .bool a) (q := .bool b) (w := default) (.inl rfl) (heq _)
  refine ⟨c, rfl, fun w => ?_⟩
  obtain ⟨c', e, hrun⟩ := binFn_run hv (P := P) (p := .bool a) (q := .bool b) (w := w) (.inl rfl) (heq w)
  cases e
  simp only [opRun, Sem.run_bind, eqGuard_ok (P := P) op t xo yo (p := .bool a) (q := .bool b) rfl (fun h => by cases h), Result.andThen_ok, hrun]
theorem bool_bin2 {P : Program} {op : BinOp} {t : TypeId} {xo yo : Operand} {r a b : Bool} {v p q : AV} (ht : P.underlying t = some .bool) (hv : binFn op r = some v)
    (hp : ∀ E' x, E.Le E' → p.den E' = some x → x = .bool a) (hq : ∀ E' x, E.Le E' → q.den E' = some x → x = .bool b) (hr : r = decide (a = b)) : Bin2 P E v p q (opRun op t xo yo) := by
  intro E' x y hE hx hy
  rw [hp E' x hE hx, hq E' y hE hy]
  obtain ⟨c, rfl, h⟩ := opRun_bool (xo := xo) (yo := yo) ht hv hr
  exact ⟨_, rfl, h⟩
theorem eqB_inv {P : Program} {op : BinOp} {c z : T} {t : TypeId} {xo yo : Operand} {a b cv : Bool} {p q : AV} (h : (eqB op c st k (.cnd z)).holds Θ E.va R) (hf : FOK E.va st.facts) (ht : P.underlying t = some .bool) (hc : c.ev E.va = some (.b cv)) (hcv : cv = decide (a = b))
    (hp : ∀ E' x, E.Le E' → p.den E' = some x → x = .bool a) (hq : ∀ E' x, E.Le E' → q.den E' = some x → x = .bool b) : Bin2Out P Θ R E st k p q (opRun op t xo yo) := by
  change (brK c st (fun st => outK st k (binFn op true)) (fun st => outK st k (binFn op false))).holds Θ E.va R at h
  obtain ⟨f, hf', h⟩ := brK_inv h hf hc
  rcases h with ⟨e, h⟩ | ⟨e, h⟩
  · obtain ⟨v, hv, h⟩ := outK_inv h
    exact ⟨v, f, h, hf', bool_bin2 ht hv hp hq (by rw [← hcv, e])⟩
  · obtain ⟨v, hv, h⟩ := outK_inv h
    exact ⟨v, f, h, hf', bool_bin2 ht hv hp hq (by rw [← hcv, e])⟩
theorem bool_den {a : Bool} : ∀ E' x, E.Le E' → (AV.bool a).den E' = some x → x = .bool a := fun E' x _ h => by cases h; rfl
theorem boolRec {a : Bool} {x y : VC} (h : (Bool.rec x y a : VC).holds Θ E.va R) : (a = true ∧ y.holds Θ E.va R) ∨ (a = false ∧ x.holds Θ E.va R) := by
  cases a with
  | true => exact .inl ⟨rfl, h⟩
  | false => exact .inr ⟨rfl, h⟩
theorem binB_inv {P : Program} {op : BinOp} {a : Bool} {q : AV} {t : TypeId} {xo yo : Operand} (h : (binB op a st k q).holds Θ E.va R) (hf : FOK E.va st.facts) (hoq : okv E q) (ht : P.underlying t = some .bool) :
    Bin2Out P Θ R E st k (.bool a) q (opRun op t xo yo) := by
  unfold binB at h
  split at h
  · obtain ⟨v, hv, h⟩ := outK_inv h
    exact .now h hf (bool_bin2 ht hv bool_den bool_den (bbeq_eq _ _))
  · rename_i c
    obtain ⟨b, hb, hd⟩ := cnd_inv hoq
    rcases boolRec h with ⟨e, h⟩ | ⟨e, h⟩
    · exact eqB_inv h hf ht hb (a := a) (b := b) (by rw [e]; cases b <;> rfl) bool_den hd
    · exact eqB_inv h hf ht (mkNot_ev hb) (a := a) (b := b) (by rw [e]; cases b <;> rfl) bool_den hd
  · exact h.elim
theorem binC_inv {P : Program} {op : BinOp} {c : T} {q : AV} {t : TypeId} {xo yo : Operand} (h : (binC op c st k q).holds Θ E.va R) (hf : FOK E.va st.facts) (hop : okv E (.cnd c)) (hoq : okv E q) (ht : P.underlying t = some .bool) :
    Bin2Out P Θ R E st k (.cnd c) q (opRun op t xo yo) := by
  obtain ⟨a, ha, hda⟩ := cnd_inv hop
  unfold binC at h
  split at h
  · rename_i b
    rcases boolRec h with ⟨e, h⟩ | ⟨e, h⟩
    · exact eqB_inv h hf ht ha (a := a) (b := b) (by rw [e]; cases a <;> rfl) hda bool_den
    · exact eqB_inv h hf ht (mkNot_ev ha) (a := a) (b := b) (by rw [e]; cases a <;> rfl) hda bool_den
  · rename_i d
    obtain ⟨b, hb, hdb⟩ := cnd_inv hoq
    obtain ⟨f, hf', h⟩ := brK_inv h hf hb
    rcases h with ⟨e, h⟩ | ⟨e, h⟩
    · obtain ⟨v, g, h1, h2, h3⟩ := eqB_inv (k := k) h (by rw [withF_facts]; exact hf') ht ha (a := a) (b := b) (by rw [e]; cases a <;> rfl) hda hdb
      exact ⟨v, g, by rw [withF_withF] at h1; exact h1, h2, h3⟩
    · obtain ⟨v, g, h1, h2, h3⟩ := eqB_inv (k := k) h (by rw [withF_facts]; exact hf') ht (mkNot_ev ha) (a := a) (b := b) (by rw [e]; cases a <;> rfl) hda hdb
      exact ⟨v, g, by rw [withF_withF] at h1; exact h1, h2, h3⟩
  · exact h.elim

/-! ### Texts -/
theorem bytesOf_toList (s : List Nat) : (bytesOf s).toList = s.map UInt8.ofNat := by rw [ByteArray.toList_eq]; rfl
theorem bytesOf_append (s t : List Nat) : bytesOf s ++ bytesOf t = bytesOf (s ++ t) := by
  apply ByteArray.ext
  rw [ByteArray.data_append]
  simp [bytesOf]
theorem bytesLess_map : ∀ {s t : List Nat}, (∀ c ∈ s, c < 256) → (∀ c ∈ t, c < 256) → Op.bytesLess (s.map UInt8.ofNat) (t.map UInt8.ofNat) = lltL s t
  | [], [], _, _ => rfl
  | _ :: _, [], _, _ => rfl
  | [], _ :: _, _, _ => rfl
  | a :: s, b :: t, h1, h2 => by
    have ha := h1 a (by simp)
    have hb := h2 b (by simp)
    have ih := bytesLess_map (s := s) (t := t) (fun c hc => h1 c (List.mem_cons_of_mem _ hc)) (fun c hc => h2 c (List.mem_cons_of_mem _ hc))
    simp only [List.map_cons, Op.bytesLess, lltL, ih, blt_iff, beq_iff]
    have e1 : (UInt8.ofNat a < UInt8.ofNat b) ↔ a < b := by rw [UInt8.lt_iff_toNat_lt, toU8 ha, toU8 hb]
    have e2 : (UInt8.ofNat a == UInt8.ofNat b) = decide (a = b) := by
      by_cases e : a = b
      · subst e; simp
      · rw [decide_eq_false e, beq_eq_false_iff_ne]
        intro h
        have := congrArg UInt8.toNat h
        rw [toU8 ha, toU8 hb] at this; exact e this
    rw [e2]
    by_cases c : a < b
    · simp [e1, c]
    · simp only [e1, c, decide_false, bif_false]
      by_cases d : a = b <;> simp [d]
theorem strOp_run {P : Program} {op : BinOp} {n m : Nat} {s t : List Nat} {v : AV} (h : strOp op n s m t = some v) {x y : Value} (hx : (AV.str n s).den E = some x) (hy : (AV.str m t).den E = some y) (ty : TypeId) (xo yo : Operand) :
    ∃ z, v.den E = some z ∧ ∀ w, (opRun op ty xo yo x y).run P w = .ok z w := by
  obtain ⟨hn, hs, rfl⟩ := den_str hx
  obtain ⟨hm, ht, rfl⟩ := den_str hy
  have hg : ∀ w, (eqGuard op ty xo yo (.string (bytesOf s)) (.string (bytesOf t))).run P w = .ok () w := fun w => by unfold eqGuard; cases op <;> simp
  have hop : Go.binOp op ty (.string (bytesOf s)) (.string (bytesOf t)) = Op.stringOp op (bytesOf s) (bytesOf t) := by cases op <;> rfl
  have hleq : ((bytesOf s).toList == (bytesOf t).toList) = leqL s t := by
    rw [leqL_eq, bytesOf_toList, bytesOf_toList]
    by_cases e : s = t
    · subst e; simp
    · rw [decide_eq_false e, beq_eq_false_iff_ne]; exact fun h => e (map_u8_inj hs ht h)
  have hllt : Op.bytesLess (bytesOf s).toList (bytesOf t).toList = lltL s t := by rw [bytesOf_toList, bytesOf_toList, bytesLess_map hs ht]
  unfold strOp at h
  split at h
  · obtain ⟨hb, h⟩ := bif_some h
    cases h
    rw [ble_iff, natAdd, decide_eq_true_eq] at hb
    refine ⟨.string (bytesOf (s ++ t)), den_str_of (by rw [natAdd, List.length_append, hn, hm]) (fun c hc => (List.mem_append.1 hc).elim (hs c) (ht c)), fun w => ?_⟩
    simp only [opRun, Sem.run_bind, hg, Result.andThen_ok, hop, Op.stringOp, bytesOf_size]
    rw [if_neg (by show ¬ (((s.length + t.length : Nat) : Int) > 9223372036854775807); omega), bytesOf_append]
    rfl
  all_goals first | (cases h; done) | skip
  all_goals (
    cases h
    refine ⟨_, rfl, fun w => ?_⟩
    simp only [opRun, Sem.run_bind, hg, Result.andThen_ok, hop, Op.stringOp, hleq, hllt]
    rfl)
theorem binStr_inv {P : Program} {op : BinOp} {n : Nat} {s : List Nat} {q : AV} {t : TypeId} {xo yo : Operand} (h : (binStr op n s st k q).holds Θ E.va R) (hf : FOK E.va st.facts) : Bin2Out P Θ R E st k (.str n s) q (opRun op t xo yo) := by
  unfold binStr at h
  split at h
  · obtain ⟨v, hv, h⟩ := outK_inv h
    exact .now h hf fun E' x y _ hx hy => strOp_run hv hx hy t xo yo
  · exact h.elim

theorem xBin_inv (hc : CxOK X K w0) {op : BinOp} {t : TypeId} {d : TypeDesc} {p q : AV} {xo yo : Operand} (h : (xBin X.cx op t d (isConst xo || isConst yo) q st k p).holds Θ E.va R) (hf : FOK E.va st.facts) (hop : okv E p) (hoq : okv E q) (hd : X.cx.und.get t = some d) :
    Bin2Out X.P Θ R E st k p q (opRun op t xo yo) := by
  have hbool : ∀ {y : VC}, (vif (isBoolD d) y).holds Θ E.va R → X.P.underlying t = some .bool ∧ y.holds Θ E.va R := by
    intro y h
    obtain ⟨h1, h2⟩ := vif_inv h
    refine ⟨?_, h2⟩
    have := hc.und t d hd
    cases d <;> first | (cases h1; done) | exact this
  unfold xBin at h
  split at h
  · exact binI_inv h hf hop hoq t xo yo
  · exact binS_inv h hf hop hoq t xo yo
  · obtain ⟨h1, h2⟩ := hbool h; exact binB_inv h2 hf hoq h1
  · obtain ⟨h1, h2⟩ := hbool h; exact binC_inv h2 hf hop hoq h1
  · exact binStr_inv h hf
  · unfold binG at h
    split at h
    · exact binAgg_inv hc h hf hop hoq xo yo
    · exact h.elim
  · obtain ⟨r, hr, h⟩ := vbind_inv h
    obtain ⟨v, hv, h⟩ := outK_inv h
    refine .now h hf fun E' x y _ hx hy => ?_
    obtain ⟨hsh, hnn⟩ := eqD_shape hr hx hy
    have heq : ∀ w, (Op.equal t x y).run X.P w = .ok r w := fun w => eqD_sound hr (hc.und t d hd) hx hy 9999 w
    obtain ⟨b, rfl, _⟩ := binFn_run hv (w := default) (.inl hsh) (heq _)
    refine ⟨_, rfl, fun w => ?_⟩
    obtain ⟨b', e, hrun⟩ := binFn_run hv (w := w) (.inl hsh) (heq w)
    cases e
    simp only [opRun, Sem.run_bind, eqGuard_ok (P := X.P) op t xo yo hsh hnn, Result.andThen_ok, hrun]

/-! ### One operand -/
/-- Whenever it comes, and whatever it is that x stands for. -/
def Un1 (P : Program) (E : Env) (v p : AV) (run : Value → Sem Value) : Prop :=
  ∀ E' x, E.Le E' → p.den E' = some x → ∃ z, v.den E' = some z ∧ ∀ w, (run x).run P w = .ok z w
def Un1Out (P : Program) (Θ : Pred) (R : List Back) (E : Env) (st : St) (k : Kt) (p : AV) (run : Value → Sem Value) : Prop :=
  ∃ v f, (k v (st.withF f)).holds Θ E.va R ∧ FOK E.va f ∧ Un1 P E v p run
theorem Un1Out.now {P : Program} {p v : AV} {run : Value → Sem Value} (hk : (k v st).holds Θ E.va R) (hf : FOK E.va st.facts) (h : Un1 P E v p run) : Un1Out P Θ R E st k p run :=
  ⟨v, st.facts, by rw [withF_self]; exact hk, hf, h⟩
theorem sgn_zero (k : IntKind) : sgn k 0 = 0 := by cases k <;> rfl
theorem ones_sgn (k : IntKind) : sgn k (modOf k - 1) = if k.signed then -1 else k.max := by cases k <;> rfl
theorem xUn_inv {P : Program} {op : UnOp} {p : AV} (h : (xUn op st k p).holds Θ E.va R) (hf : FOK E.va st.facts) (hop : okv E p) : Un1Out P Θ R E st k p (Op.unary op) := by
  have hm := modOf_pos
  unfold xUn at h
  split at h
  · split at h
    · exact .now h hf fun E' x _ hx => by cases hx; exact ⟨_, rfl, fun w => rfl⟩
    · exact h.elim
  · split at h
    · obtain ⟨b, hb, hd⟩ := cnd_inv hop
      exact .now h hf fun E' x hE hx => by rw [hd E' x hE hx]; exact ⟨_, den_cnd_of (ev_mono hE.va (mkNot_ev hb)), fun w => rfl⟩
    · exact h.elim
  · rename_i kd a
    split at h
    · refine .now h hf fun E' x _ hx => ?_
      obtain ⟨ha, rfl⟩ := den_int hx
      obtain ⟨h1, h2⟩ := arU_zar (op := .sub) (k := kd) (a := 0) (b := a) (y := sgn kd a) rfl (hm kd) (fun _ => ⟨ha, rfl⟩) (fun h => by cases h)
      rw [natAdd, Nat.zero_add, natMod] at h1 h2
      refine ⟨_, den_int_of h1, fun w => ?_⟩
      rw [sgn_zero] at h2
      have := zar_run (P := P) h2 (.inr rfl : isShift .sub = true ∨ kd = kd) 0 w
      simp only [Go.binOp, ne_eq, not_true_eq_false, if_false] at this
      exact this
    · refine .now h hf fun E' x _ hx => ?_
      obtain ⟨ha, rfl⟩ := den_int hx
      obtain ⟨h1, h2⟩ := arU_zar (op := .xor) (k := kd) (a := modOf kd - 1) (b := a) (y := sgn kd a) rfl (by have := hm kd; omega) (fun _ => ⟨ha, rfl⟩) (fun h => by cases h)
      have e : Nat.xor (modOf kd - 1) a = Nat.xor a (Nat.sub (modOf kd) 1) := Nat.xor_comm _ _
      rw [e] at h1 h2
      refine ⟨_, den_int_of h1, fun w => ?_⟩
      have := zar_run (P := P) h2 (.inr rfl : isShift .xor = true ∨ kd = kd) 0 w
      rw [ones_sgn] at this
      simpa [Go.binOp, Op.unary] using this
    · exact h.elim
  · rename_i kd t
    obtain ⟨n, h1, h2, h3⟩ := toT_inv (v := .sym kd t) rfl hop
    split at h
    · have hz : zar .sub kd 0 n = some (kd.wrap (0 - n)) := rfl
      refine .now h hf fun E' x hE hx => ?_
      rw [h3 E' x hE hx]
      refine ⟨_, den_sym_of (bin_ev (ρ := E'.va) rfl (ev_mono hE.va h1) hz) (wrap_wf _ _), fun w => ?_⟩
      have := zar_run (P := P) hz (.inr rfl : isShift .sub = true ∨ kd = kd) 0 w
      simp only [Go.binOp, ne_eq, not_true_eq_false, if_false] at this
      exact this
    · obtain ⟨c, hz⟩ : ∃ c, zar .xor kd (sgn kd (modOf kd - 1)) n = some c := ⟨_, rfl⟩
      refine .now h hf fun E' x hE hx => ?_
      rw [h3 E' x hE hx]
      refine ⟨_, den_sym_of (bin_ev (ρ := E'.va) rfl (ev_mono hE.va h1) hz) (zar_wf hz (sgn_wf _ (by have := hm kd; omega))), fun w => ?_⟩
      have := zar_run (P := P) hz (.inr rfl : isShift .xor = true ∨ kd = kd) 0 w
      rw [ones_sgn] at this
      simpa [Go.binOp, Op.unary] using this
    · exact h.elim
  · exact h.elim

/-! ### The least, the greatest -/
def mmRun (mx : Bool) : Value → Value → Sem Value := if mx then Builtin.max2 else Builtin.min2
theorem mmRun_int {P : Program} (mx : Bool) (j k : IntKind) (x y : Int) (w : World) : (mmRun mx (.int j x) (.int k y)).run P w = .ok (.int j (if (if mx then x < y else y < x) then y else x)) w := by
  cases mx <;> simp [mmRun, Builtin.min2, Builtin.max2]
theorem mm2_inv {P : Program} {mx : Bool} {p q : AV} (h : (mm2 mx st k p q).holds Θ E.va R) (hf : FOK E.va st.facts) (hop : okv E p) (hoq : okv E q) : Bin2Out P Θ R E st k p q (mmRun mx) := by
  unfold mm2 at h
  split at h
  · rename_i j a kd b
    obtain ⟨hk, h1⟩ := vif_inv h
    have hjk := kbeq_eq hk
    subst hjk
    obtain ⟨x0, hx0⟩ := hop
    have ha := (den_int hx0).1
    obtain ⟨y0, hy0⟩ := hoq
    have hb := (den_int hy0).1
    have key : ∀ {v : AV} {c : Nat}, v = .int j c → c < modOf j → (sgn j c = if (if mx then sgn j a < sgn j b else sgn j b < sgn j a) then sgn j b else sgn j a) → Bin2 P E v (.int j a) (.int j b) (mmRun mx) := by
      intro v c hv hlt e E' x y _ hx hy
      rw [(den_int hx).2, (den_int hy).2]
      subst hv
      exact ⟨_, den_int_of hlt, fun w => by rw [mmRun_int, e]⟩
    have hcond : (Bool.rec (sltU (halfOf j) b a) (sltU (halfOf j) a b) mx : Bool) = decide (if mx then sgn j a < sgn j b else sgn j b < sgn j a) := by
      cases mx with
      | true => show sltU _ _ _ = _; rw [sltU_eq j ha hb]; simp
      | false => show sltU _ _ _ = _; rw [sltU_eq j hb ha]; simp
    rw [hcond] at h1
    rcases bif_holds h1 with ⟨e, h2⟩ | ⟨e, h2⟩
    · exact .now h2 hf (key rfl hb (by rw [if_pos (of_decide_eq_true e)]))
    · exact .now h2 hf (key rfl ha (by rw [if_neg (of_decide_eq_false e)]))
  · obtain ⟨a, hpa, h⟩ := vbind_inv h
    obtain ⟨b, hqb, h⟩ := vbind_inv h
    obtain ⟨hk, h⟩ := vif_inv h
    obtain ⟨j, x⟩ := a
    obtain ⟨kd, y⟩ := b
    have hjk := kbeq_eq hk
    simp only at hjk
    subst hjk
    obtain ⟨n, h1, _, hn⟩ := toT_inv hpa hop
    obtain ⟨m, h2, _, hm⟩ := toT_inv hqb hoq
    have hev : (mkCmp (Bool.rec .lss .gtr mx) y x).ev E.va = some (.b (decide (if mx then n < m else m < n))) := by
      rw [mkCmp_ev h2 h1]
      cases mx <;> simp [zcm]
    obtain ⟨f, hf', h⟩ := brK_inv h hf hev
    rcases h with ⟨e, h⟩ | ⟨e, h⟩
    · refine ⟨q, f, h, hf', fun E' x y hE hx hy => ⟨y, hy, fun w => ?_⟩⟩
      rw [hn E' x hE hx, hm E' y hE hy, mmRun_int, if_pos (of_decide_eq_true e)]
    · refine ⟨p, f, h, hf', fun E' x y hE hx hy => ⟨x, hx, fun w => ?_⟩⟩
      rw [hn E' x hE hx, hm E' y hE hy, mmRun_int, if_neg (of_decide_eq_false e)]
theorem mmL_inv {P : Program} {mx : Bool} : ∀ {l : List AV} {v : AV} {st : St}, (mmL mx l v st k).holds Θ E.va R → FOK E.va st.facts → okv E v → (∀ u ∈ l, okv E u) →
    ∃ u f, (k u (st.withF f)).holds Θ E.va R ∧ FOK E.va f ∧ ∀ E' x xs, E.Le E' → v.den E' = some x → denL E' l = some xs → ∃ z, u.den E' = some z ∧ ∀ w, (xs.foldlM (mmRun mx) x).run P w = .ok z w
  | [], v, st, h, hf, _, _ => ⟨v, st.facts, by rw [withF_self]; exact h, hf, fun E' x xs _ hx hxs => ⟨x, hx, fun w => by rw [denL_nil.1 hxs]; rfl⟩⟩
  | q :: l, v, st, h, hf, hv, hl => by
    change (mm2 mx st (fun v st => mmL mx l v st k) v q).holds Θ E.va R at h
    obtain ⟨u, f, h1, hf', h2⟩ := mm2_inv (P := P) h hf hv (hl q (by simp))
    have hu : okv E u := by
      obtain ⟨x, hx⟩ := hv
      obtain ⟨y, hy⟩ := hl q (by simp)
      obtain ⟨z, hz, _⟩ := h2 E.fill x y E.le_fill hx hy
      exact ⟨z, hz⟩
    obtain ⟨u', g, h3, hg, h4⟩ := mmL_inv (P := P) h1 (by rw [withF_facts]; exact hf') hu fun y hy => hl y (List.mem_cons_of_mem _ hy)
    rw [withF_withF] at h3
    refine ⟨u', g, h3, hg, fun E' x xs hE hx hxs => ?_⟩
    obtain ⟨y, ys, hy, hys, rfl⟩ := denL_cons.1 hxs
    obtain ⟨z, hz, hrun⟩ := h2 E' x y hE hx hy
    obtain ⟨z', hz', hrun'⟩ := h4 E' z ys hE hz hys
    exact ⟨z', hz', fun w => by simp only [List.foldlM_cons, Sem.run_bind, hrun w, Result.andThen_ok, hrun' w]⟩
end
end Go.Sy
/-! Operations that leave memory as it is: parts, places, slices. -/
namespace Go.Sy
section
variable {X : Tabs} {K : Nat → Prop} {w0 : World} {E : Env} {st : St} {w : World} {Θ : Pred} {R : List Back} {tm : Tm} {k : Kt} {o : Oper}

/-- A part of a type of that form. -/
theorem part_sound (hc : CxOK X K w0) {t : TypeId} {g : Option Nat} (hg : aggN X.cx.und X.cx.size t = some g) {l : List AV} {off : Nat} {v : AV} (h : part g l off = some v) {E : Env} {xs : List Value} (hx : denL E l = some xs) :
    ∃ y, v.den E = some y ∧ ∀ w, (Go.part t xs.toArray off).run X.P w = .ok y w := by
  cases g with
  | none =>
    change getL off l = some v at h
    rw [getL_eq] at h
    obtain ⟨y, h1, h2⟩ := denL_get hx h
    refine ⟨y, h1, fun w => ?_⟩
    have hi := (aggN_sound hc hg w).1
    simp only [Option.isSome_none] at hi
    simp [Go.part, hi, h2]
  | some n =>
    obtain ⟨_, h⟩ := bif_some h
    cases h
    rw [takeL_eq, dropL_eq]
    refine ⟨.agg ((xs.drop off).take n).toArray, den_agg_of (denL_take n (denL_drop off hx)), fun w => ?_⟩
    obtain ⟨hi, hs⟩ := aggN_sound hc hg w
    simp only [Option.isSome_some] at hi
    simp only [Go.part, Sem.run_bind, hi, Result.andThen_ok, if_true, hc.size' (hs n rfl), Sem.run_pure]
    congr 2
    apply Array.ext'
    simp [Nat.add_sub_cancel_left]

/-! ### Composite values -/
theorem denL_fillAt : ∀ {vs l : List AV} {ys xs : List Value} (off : Nat), denL E vs = some ys → denL E l = some xs → denL E (fillAt off vs l) = some (fillAt off ys xs)
  | [], l, ys, xs, off, h, hl => by rw [denL_nil.1 h]; exact hl
  | v :: r, l, ys, xs, off, h, hl => by
    obtain ⟨p, q, hp, hq, rfl⟩ := denL_cons.1 h
    simp only [fillAt, setL_eq]
    exact denL_fillAt _ hq (denL_set off hl hp)
theorem fold_fillAt : ∀ (ys : List Value) (s off : Nat) (cs : Array Value), ((ys.zipIdx s).foldl (fun cs x => cs.setIfInBounds (off + x.2) x.1) cs).toList = fillAt (off + s) ys cs.toList
  | [], s, off, cs => by simp [fillAt]
  | y :: r, s, off, cs => by
    simp only [List.zipIdx_cons, List.foldl_cons, fillAt, setL_eq]
    rw [fold_fillAt r (s + 1) off]
    simp [Nat.add_assoc]
/-- What is put in, at places that are known. -/
theorem build_sound {place place' : Nat → Option (Nat × Nat)} (hpl : ∀ i p, place i = some p → place' i = some p) {E : Env} {ρ : Operand → Value} :
    ∀ {parts : List (Nat × Operand)} {ps : List (Nat × Nat × BO)} {l l' : List AV} {xs : List Value}, cParts place parts = some ps → buildP (evPs tm ps) l = some l' → denL E l = some xs → Rd E tm ρ (parts.map (·.2)) →
      ∃ xs', denL E l' = some xs' ∧ Instr.fill place' xs.toArray (parts.map fun p => (p.1, ρ p.2)) = some xs'.toArray
  | [], ps, l, l', xs, hp, h, hl, _ => by
    cases hp
    cases h
    exact ⟨xs, hl, rfl⟩
  | (i, x) :: parts, ps, l, l', xs, hp, h, hl, hR => by
    change obind (place i) (fun q => obind (cO x) fun b => obind (cParts place parts) fun r => some ((q.1, (q.2, b)) :: r)) = some ps at hp
    obtain ⟨q, hq, hp⟩ := obind_inv hp
    obtain ⟨b, hb, hp⟩ := obind_inv hp
    obtain ⟨r, hr, hp⟩ := obind_inv hp
    cases hp
    change bif_ (notDead (ev tm b) && (Nat.beq q.2 (lenL (ev tm b).cells) && Nat.ble (Nat.add q.1 q.2) (lenL l))) (buildP (evPs tm r) (fillF q.1 (ev tm b).cells l)) none = some l' at h
    rw [fillF_eq] at h
    obtain ⟨hcond, h⟩ := bif_some h
    simp only [Bool.and_eq_true, beq_iff, ble_iff, decide_eq_true_eq, lenL_eq, natAdd] at hcond
    obtain ⟨hd, e1, e2⟩ := hcond
    have hy := hR x (by simp) b hb
    obtain ⟨ys, hys, hcs⟩ := den_cells hd hy
    have hl1 := denL_length hys
    have hl2 := denL_length hl
    obtain ⟨xs', h3, h4⟩ := build_sound hpl hr h (denL_fillAt q.1 hys hl) (fun y hy => hR y (by simp only [List.map_cons]; exact List.mem_cons_of_mem _ hy))
    refine ⟨xs', h3, ?_⟩
    have hsz : (ρ x).cells.size = q.2 := by rw [e1, ← hl1, ← hcs]; simp
    have hfold : ((ρ x).cells.zipIdx.foldl (fun cs x => cs.setIfInBounds (q.1 + x.2) x.1) xs.toArray) = (fillAt q.1 ys xs).toArray := by
      apply Array.ext'
      rw [← Array.foldl_toList, Array.toList_zipIdx, hcs]
      simpa using fold_fillAt ys 0 q.1 xs.toArray
    simp only [List.map_cons, Instr.fill, hpl _ q hq]
    rw [if_neg (by simp [hsz]; omega)]
    rw [hfold]
    exact h4
theorem placeS_ok (hc : CxOK X K w0) {t : TypeId} {fs : Array Field} (hd : X.cx.und.get t = some (.struct fs)) :
    ∃ places, fs.toList.mapM (fun f => (X.P.info? f.type).map fun i => (f.offset, i.size)) = some places ∧ ∀ i p, placeS X.cx.size fs.toList i = some p → places[i]? = some p := by
  refine ⟨fs.toList.map fun f => (((X.P.info? f.type).map fun i => (f.offset, i.size)).getD (0, 0)), ChangeMaps.mapM_total _ fun f hf => ?_, fun i p hp => ?_⟩
  · obtain ⟨i, hi⟩ := hc.fld t fs hd f hf; exact ⟨_, by rw [hi]; rfl⟩
  · obtain ⟨f, hf, hp⟩ := obind_inv hp
    obtain ⟨n, hn, hp⟩ := obind_inv hp
    cases hp
    rw [getL_eq] at hf
    obtain ⟨i', hi', hn'⟩ := hc.size _ _ hn
    simp [hf, hi', hn']
theorem ops_build {t : TypeId} {parts : Array (Nat × Operand)} (ho : o.op = .build t parts) : o.op.operands.toList = parts.toList.map (·.2) := by rw [ho]; rfl
theorem cBuild_out (hc : CxOK X K w0) {cxr : Rec} {t : TypeId} {parts : Array (Nat × Operand)} {d : TypeDesc} {b : BOp} (hd : X.cx.und.get t = some d) (hb : cBuild X.cx.size X.cx.zero t parts.toList d = some b) (h : (xop b X.cx cxr tm st k).holds Θ E.va R) (hf : FOK E.va st.facts) (ho : o.op = .build t parts) :
    ValOut X Θ R E o tm st k := by
  have hu := hc.und t d hd
  unfold cBuild at hb
  split at hb
  · rename_i fs
    obtain ⟨z, hz, hb⟩ := obind_inv hb
    obtain ⟨ps, hps, hb⟩ := obind_inv hb
    cases hb
    obtain ⟨l, hl, h⟩ := vbind_inv h
    obtain ⟨it, zv, h1, h2, h3, h4, h5, _⟩ := hc.zero t z hz
    obtain ⟨places, hp1, hp2⟩ := placeS_ok hc hd
    refine .now h hf fun E' ρ hE hR => ?_
    rw [ops_build ho] at hR
    obtain ⟨xs', e1, e2⟩ := build_sound (place' := (places.toArray[·]?)) (fun i p hp => by simpa using hp2 i p hp) hps hl (h5 E') hR
    refine ⟨_, den_agg_of e1, fun w => ?_⟩
    have hex : (execOp ρ o).run X.P w = ((Instr.build t (parts.map fun (i, x) => (i, ρ x))) >>= fun v => pure (Next.value v) : Sem Next).run X.P w := by simp only [execOp, ho]
    rw [hex]
    have := run_build (P := X.P) w t (parts.map fun (i, x) => (i, ρ x)) xs'.toArray (by simp only [Program.built, h1, hu, h2, hp1]; simpa using e2)
    simp [this]
  · rename_i n e
    obtain ⟨z, hz, hb⟩ := obind_inv hb
    obtain ⟨s, hs, hb⟩ := obind_inv hb
    obtain ⟨ps, hps, hb⟩ := obind_inv hb
    cases hb
    obtain ⟨l, hl, h⟩ := vbind_inv h
    obtain ⟨it, zv, h1, h2, h3, h4, h5, _⟩ := hc.zero t z hz
    obtain ⟨ie, hie, e0⟩ := hc.size _ _ hs
    refine .now h hf fun E' ρ hE hR => ?_
    rw [ops_build ho] at hR
    obtain ⟨xs', e1, e2⟩ := build_sound (place' := fun i => some (i * ie.size, ie.size)) (fun i p hp => by rw [e0]; exact hp) hps hl (h5 E') hR
    refine ⟨_, den_agg_of e1, fun w => ?_⟩
    have hex : (execOp ρ o).run X.P w = ((Instr.build t (parts.map fun (i, x) => (i, ρ x))) >>= fun v => pure (Next.value v) : Sem Next).run X.P w := by simp only [execOp, ho]
    rw [hex]
    have := run_build (P := X.P) w t (parts.map fun (i, x) => (i, ρ x)) xs'.toArray (by simp only [Program.built, h1, hu, h2, hie]; simpa using e2)
    simp [this]
  · cases hb

/-! ### Places -/
theorem den_bound {i : Nat} {P : Program} {kd : IntKind} {x : Value} (h : x = .int kd i) (w : World) : (asIntOf x).run P w = .ok (kd, (i : Int)) w := by subst h; rfl
theorem xFadr_out (hc : CxOK X K w0) {s : TypeId} {x : Operand} {fa : Array Field} {f : Nat} {fl : Field} {n : Nat} {b : BO} (hb : cO x = some b) (hd : X.cx.und.get s = some (.struct fa)) (hfl : fa[f]? = some fl) (hn : X.cx.size.get fl.type = some (n + 1)) (ho : o.op = .fieldAddr s x f)
    (h : (xFadr fl.offset st k (ev tm b)).holds Θ E.va R) (hf : FOK E.va st.facts) : ValOut X Θ R E o tm st k := by
  obtain ⟨a, ha, h⟩ := vbind_inv h
  rw [natK_eq] at h
  have hp := asPtr_inv ha
  refine .now h hf fun E' ρ hE hR => ?_
  have hx := hR.get (x := x) (by rw [ho]; simp [Op.operands]) hb
  rw [hp] at hx
  obtain ⟨ad, had, e0⟩ := den_ptr hx
  refine ⟨_, den_ptr_of (aden_add (b := a.b) (off := a.off) had fl.offset), fun w => ?_⟩
  simp [execOp, ho, e0, Instr.fieldAt, hc.und' hd, hfl, Instr.sureAddr, fieldPlace, hc.size' hn]
theorem xFld_out (hc : CxOK X K w0) {s : TypeId} {x : Operand} {fa : Array Field} {f : Nat} {fl : Field} {g : Option Nat} {b : BO} (hb : cO x = some b) (hd : X.cx.und.get s = some (.struct fa)) (hfl : fa[f]? = some fl) (hg : aggN X.cx.und X.cx.size fl.type = some g) (ho : o.op = .field s x f)
    (h : (xFld g fl.offset st k (ev tm b)).holds Θ E.va R) (hf : FOK E.va st.facts) : ValOut X Θ R E o tm st k := by
  obtain ⟨l, hl, h⟩ := vbind_inv h
  obtain ⟨v, hv, h⟩ := outK_inv h
  have hp := asAgg_inv hl
  refine .now h hf fun E' ρ hE hR => ?_
  have hx := hR.get (x := x) (by rw [ho]; simp [Op.operands]) hb
  rw [hp] at hx
  obtain ⟨xs, hxs, e0⟩ := den_agg hx
  obtain ⟨y, h1, h2⟩ := part_sound hc hg hv hxs
  exact ⟨y, h1, fun w => by simp [execOp, ho, e0, Instr.field, hc.und' hd, hfl, Go.asAgg, h2]⟩
theorem elem_den {E : Env} {a : AAddr} {ad : Addr} (had : aden E a = some ad) (i es : Nat) : (AV.ptr (some ⟨a.b, Nat.add a.off (Nat.mul i es)⟩)).den E = some (.pointer (some (ad.add (i * es)))) :=
  den_ptr_of (aden_add (b := a.b) (off := a.off) had (i * es))
theorem xIadrA_out (hc : CxOK X K w0) (hO : Oks E tm) {t e : TypeId} {n es : Nat} {x i : Operand} {bx bi : BO} (hx : cO x = some bx) (hi : cO i = some bi) (hd : X.cx.und.get t = some (.array n e)) (hs : X.cx.size.get e = some es) (ho : o.op = .indexAddr t x i)
    (h : (xIadrA n es (ev tm bi) st k (ev tm bx)).holds Θ E.va R) (hf : FOK E.va st.facts) : ValOut X Θ R E o tm st k := by
  obtain ⟨a, ha, h⟩ := vbind_inv h
  obtain ⟨j, f, hj, hf', h, kd, hval⟩ := idxK_inv h hf (hO.ev hi)
  simp only [elemK, natK_eq] at h
  refine ⟨_, f, h, hf', fun E' ρ hE hR => ?_⟩
  have hx := hR.get (x := x) (by rw [ho]; simp [Op.operands]) hx
  have hi := hval E' _ hE (hR.get (x := i) (by rw [ho]; simp [Op.operands]) hi)
  rw [asPtr_inv ha] at hx
  obtain ⟨ad, had, e0⟩ := den_ptr hx
  exact ⟨_, elem_den had j es, fun w => by simp [execOp, ho, e0, hi, Instr.indexAt, asIntOf, hc.und' hd, Instr.sureAddr, hj, hc.size' hs]⟩
theorem xIadrS_out (hc : CxOK X K w0) (hO : Oks E tm) {t e : TypeId} {es : Nat} {x i : Operand} {bx bi : BO} (hx : cO x = some bx) (hi : cO i = some bi) (hd : X.cx.und.get t = some (.slice e)) (hs : X.cx.size.get e = some es) (ho : o.op = .indexAddr t x i)
    (h : (xIadrS es (ev tm bi) st k (ev tm bx)).holds Θ E.va R) (hf : FOK E.va st.facts) : ValOut X Θ R E o tm st k := by
  unfold xIadrS at h
  split at h
  · rename_i a n c hev
    obtain ⟨j, f, hj, hf', h, kd, hval⟩ := idxK_inv h hf (hO.ev hi)
    simp only [elemK, natK_eq] at h
    refine ⟨_, f, h, hf', fun E' ρ hE hR => ?_⟩
    have hx := hR.get (x := x) (by rw [ho]; simp [Op.operands]) hx
    have hi := hval E' _ hE (hR.get (x := i) (by rw [ho]; simp [Op.operands]) hi)
    rw [hev] at hx
    rcases den_slice_inv hx with ⟨h, _⟩ | ⟨p, ad, cp, e1, had, _, _, e0⟩
    · cases h
    · cases e1
      exact ⟨_, elem_den had j es, fun w => by simp [execOp, ho, e0, hi, Instr.indexAt, asIntOf, hc.und' hd, hj, hc.size' hs]⟩
  · exact h.elim
theorem xIdxA_out (hc : CxOK X K w0) (hO : Oks E tm) {t e : TypeId} {n es : Nat} {g : Option Nat} {x i : Operand} {bx bi : BO} (hx : cO x = some bx) (hi : cO i = some bi) (hd : X.cx.und.get t = some (.array n e)) (hs : X.cx.size.get e = some es) (hg : aggN X.cx.und X.cx.size e = some g) (ho : o.op = .index t x i)
    (h : (xIdxA n es g (ev tm bi) st k (ev tm bx)).holds Θ E.va R) (hf : FOK E.va st.facts) : ValOut X Θ R E o tm st k := by
  obtain ⟨l, hl, h⟩ := vbind_inv h
  obtain ⟨j, f, hj, hf', h, kd, hval⟩ := idxK_inv h hf (hO.ev hi)
  obtain ⟨v, hv, h⟩ := outK_inv h
  refine ⟨_, f, h, hf', fun E' ρ hE hR => ?_⟩
  have hx := hR.get (x := x) (by rw [ho]; simp [Op.operands]) hx
  have hi := hval E' _ hE (hR.get (x := i) (by rw [ho]; simp [Op.operands]) hi)
  rw [asAgg_inv hl] at hx
  obtain ⟨xs, hxs, e0⟩ := den_agg hx
  obtain ⟨y, h1, h2⟩ := part_sound hc hg hv hxs
  rw [natMul] at h2
  exact ⟨y, h1, fun w => by simp [execOp, ho, e0, hi, Instr.index, asIntOf, hc.und' hd, hj, hc.size' hs, h2]⟩
theorem bytesOf_get {s : List Nat} {i c : Nat} (h : s[i]? = some c) (hc : c < 256) : ∃ b : UInt8, (bytesOf s)[i]? = some b ∧ b.toNat = c := by
  have hlt : i < (bytesOf s).size := by rw [bytesOf_size]; exact (List.getElem?_eq_some_iff.1 h).1
  refine ⟨UInt8.ofNat c, ?_, toU8 hc⟩
  have h2 : (s.map UInt8.ofNat).toArray[i]? = some (UInt8.ofNat c) := by simp [h]
  have h3 : (bytesOf s).data[i]? = some (UInt8.ofNat c) := h2
  rw [getElem?_pos (bytesOf s) i hlt]
  have h4 := (Array.getElem?_eq_some_iff.1 h3).2
  rw [← h4]; rfl
theorem xIdxS_out (hc : CxOK X K w0) (hO : Oks E tm) {t : TypeId} {x i : Operand} {bx bi : BO} (hx : cO x = some bx) (hi : cO i = some bi) (hd : X.cx.und.get t = some .string) (ho : o.op = .index t x i)
    (h : (xIdxS (ev tm bi) st k (ev tm bx)).holds Θ E.va R) (hf : FOK E.va st.facts) : ValOut X Θ R E o tm st k := by
  unfold xIdxS at h
  split at h
  · rename_i n s hev
    obtain ⟨j, f, hj, hf', h, kd, hval⟩ := idxK_inv h hf (hO.ev hi)
    obtain ⟨v, hv, h⟩ := outK_inv h
    refine ⟨_, f, h, hf', fun E' ρ hE hR => ?_⟩
    have hx := hR.get (x := x) (by rw [ho]; simp [Op.operands]) hx
    have hi := hval E' _ hE (hR.get (x := i) (by rw [ho]; simp [Op.operands]) hi)
    rw [hev] at hx
    obtain ⟨hn, hs, e0⟩ := den_str hx
    rw [getL_eq] at hv
    cases hc' : s[j]? with
    | none => rw [hc'] at hv; cases hv
    | some c =>
      rw [hc'] at hv
      cases hv
      have hlt := hs c (List.mem_of_getElem? hc')
      obtain ⟨b, hb1, hb2⟩ := bytesOf_get hc' hlt
      refine ⟨_, den_int_of (by simp only [modOf]; exact hlt), fun w => ?_⟩
      have e3 : sgn .u8 c = (c : Int) := sgn_nat .u8 (by simp only [halfOf]; exact hlt)
      simp [execOp, ho, e0, hi, Instr.index, asIntOf, hc.und' hd, hb1, hb2, e3]
  · exact h.elim

/-! ### Slices -/
/-- What a bound is. -/
def BndR (ρ : Operand → Value) (d i : Nat) (lo : Option Operand) : Prop := (lo = none ∧ i = d) ∨ ∃ y kd, lo = some y ∧ ρ y = .int kd i
theorem bnd_of {d i : Nat} {lo : Option Operand} (h : (lo = none ∧ i = d) ∨ ∃ y b kd, lo = some y ∧ cO y = some b ∧ ∀ E' x, E.Le E' → (ev tm b).den E' = some x → x = .int kd i) {E' : Env} (hE : E.Le E') {ρ : Operand → Value} {l : List Operand} (hR : Rd E' tm ρ l)
    (hm : ∀ y, lo = some y → y ∈ l) : BndR ρ d i lo := by
  rcases h with h | ⟨y, b, kd, e1, e2, e3⟩
  · exact .inl h
  · exact .inr ⟨y, kd, e1, e3 E' _ hE (hR y (hm y e1) b e2)⟩
theorem run_bound {P : Program} {i m : Nat} {kd : IntKind} (hi : i ≤ m) (c : BoundsCode) (w : World) : (Instr.sliceBound (.int kd i) m c).run P w = .ok i w := by
  simp [Instr.sliceBound, asIntOf, hi]
theorem run_bounds {P : Program} {ρ : Operand → Value} {b : Bool} {n c l h m : Nat} {lo hi mx : Option Operand} (hl : BndR ρ 0 l lo) (hh : BndR ρ n h hi) (hm : BndR ρ c m mx) (hhm : mx.isSome = true → hi.isSome = true) (h1 : l ≤ h) (h2 : h ≤ m) (h3 : m ≤ c) (w : World) :
    (Instr.sliceBounds b n c (lo.map ρ) (hi.map ρ) (mx.map ρ)).run P w = .ok (l, h, m) w := by
  rcases hm with ⟨rfl, rfl⟩ | ⟨z, kz, rfl, hz⟩
  · rcases hl with ⟨rfl, rfl⟩ | ⟨x, kx, rfl, hx⟩ <;> rcases hh with ⟨rfl, rfl⟩ | ⟨y, ky, rfl, hy⟩ <;> simp only [Instr.sliceBounds, Option.map_none, Option.map_some, Sem.run_bind, Sem.run_pure, Result.andThen_ok, *] <;>
      first | rfl | (rw [run_bound (by assumption)]; first | rfl | (simp only [Result.andThen_ok]; rw [run_bound (by assumption)]; rfl))
  · rcases hh with ⟨rfl, rfl⟩ | ⟨y, ky, rfl, hy⟩
    · simp at hhm
    · rcases hl with ⟨rfl, rfl⟩ | ⟨x, kx, rfl, hx⟩
      · simp only [Instr.sliceBounds, Option.map_none, Option.map_some, Sem.run_bind, Sem.run_pure, hy, hz, run_bound h2, run_bound h3, Result.andThen_ok]
      · simp only [Instr.sliceBounds, Option.map_some, Sem.run_bind, Sem.run_pure, hx, hy, hz, run_bound h1, run_bound h2, run_bound h3, Result.andThen_ok]
end
end Go.Sy
/-! Slices; the others. -/
namespace Go.Sy
section
variable {X : Tabs} {K : Nat → Prop} {w0 : World} {E : Env} {st : St} {w : World} {Θ : Pred} {R : List Back} {tm : Tm} {k : Kt} {o : Oper}

theorem ops_slice {t : TypeId} {x : Operand} {lo hi mx : Option Operand} (ho : o.op = .slice t x lo hi mx) : x ∈ o.op.operands.toList ∧ (∀ y, lo = some y → y ∈ o.op.operands.toList) ∧ (∀ y, hi = some y → y ∈ o.op.operands.toList) ∧ (∀ y, mx = some y → y ∈ o.op.operands.toList) := by
  rw [ho]
  refine ⟨by simp [Op.operands], fun y h => ?_, fun y h => ?_, fun y h => ?_⟩ <;> subst h <;> simp [Op.operands]
theorem isNo_some {lo : Option Operand} {b : Option BO} (h : cOo lo = some b) : isNo b = lo.isNone := by
  cases lo with
  | none => cases h; rfl
  | some y => obtain ⟨v, _, e⟩ := obind_inv h; cases e; rfl
/-- All bounds of a slice expression. -/
theorem bnds_inv {d m : Nat} {lo hi : Option Operand} {lb hb : Option BO} {kk : Nat → Nat → St → VC} (h : (bndK tm d m st (fun h st => bndK tm 0 h st (fun l st => kk l h st) lb) hb).holds Θ E.va R) (hf : FOK E.va st.facts) (hO : Oks E tm)
    (hlo : cOo lo = some lb) (hhi : cOo hi = some hb) :
    ∃ l hh f, FOK E.va f ∧ (kk l hh (st.withF f)).holds Θ E.va R ∧ ∀ E' ρ os, E.Le E' → Rd E' tm ρ os → (∀ y, lo = some y → y ∈ os) → (∀ y, hi = some y → y ∈ os) → BndR ρ 0 l lo ∧ BndR ρ d hh hi := by
  obtain ⟨hh, f, _, hf1, h, hv⟩ := bndK_inv h hf hO hhi
  obtain ⟨l, g, _, hf2, h, lv⟩ := bndK_inv h (by rw [withF_facts]; exact hf1) hO hlo
  rw [withF_withF] at h
  exact ⟨l, hh, g, hf2, h, fun E' ρ os hE hR m1 m2 => ⟨bnd_of lv hE hR m1, bnd_of hv hE hR m2⟩⟩
theorem mkSl_eq (a : Option AAddr) (n : Nat) (c : Cap) : mkSl k st a n c = k (.slice a n c) st := by
  cases a with
  | none => rfl
  | some a => obtain ⟨b, off⟩ := a; show natK off (fun o => k (.slice (some ⟨b, o⟩) n c) st) = _; rw [natK_eq]
theorem cut_den {E : Env} {y : AAddr} {ad : Addr} (had : aden E y = some ad) {l h m es : Nat} (h1 : l ≤ h) (h2 : h ≤ m) :
    (AV.slice (bif_ (Nat.beq m l) (some y) (addO (some y) (Nat.mul l es))) (Nat.sub h l) (.k (Nat.sub m l))).den E = some (.slice (some (if m = l then ad else ad.add (l * es))) (h - l) (m - l)) := by
  rw [beq_iff]
  by_cases e : m = l
  · rw [decide_eq_true e, bif_true, if_pos e]
    simp only [AV.den, had, cden, natSub]
    rw [if_pos (by omega)]
  · rw [decide_eq_false e, bif_false, if_neg e]
    have := aden_add (b := y.b) (off := y.off) had (l * es)
    simp only [addO, AV.den, natAdd, natMul, this, cden, natSub]
    rw [if_pos (by omega)]
/-- The run of a slice expression of a slice. -/
theorem run_slS {P : Program} {t e : TypeId} {es n c l h m : Nat} {lo hi mx : Option Operand} {ρ : Operand → Value} {x : Operand} {a : Option Addr} {w : World} (hu : P.underlying t = some (.slice e)) (hs : (sizeOf e).run P w = .ok es w) (hx : ρ x = .slice a n c)
    (hb : (Instr.sliceBounds true n c (lo.map ρ) (hi.map ρ) (mx.map ρ)).run P w = .ok (l, h, m) w) (ho : o.op = .slice t x lo hi mx) : (execOp ρ o).run P w = .ok (.value (.slice (if m = l then a else a.map (·.add (l * es))) (h - l) (m - l))) w := by
  simp [execOp, ho, hx, Instr.sliceAt, run_underlying hu, Instr.slice, hb, hs]
theorem ble2 {a b c : Nat} (h : (Nat.ble a b && Nat.ble b c) = true) : a ≤ b ∧ b ≤ c := by simpa [ble_iff] using h
theorem ble3 {a b c d : Nat} (h : (Nat.ble a b && (Nat.ble b c && Nat.ble c d)) = true) : a ≤ b ∧ b ≤ c ∧ c ≤ d := by simpa [ble_iff] using h
theorem xSlS_out (hc : CxOK X K w0) (hS : StRel X K w0 E st w) (hO : Oks E tm) {t e : TypeId} {es : Nat} {x : Operand} {lo hi mx : Option Operand} {bx : BO} {lb hb mb : Option BO} (hx : cO x = some bx) (hlo : cOo lo = some lb) (hhi : cOo hi = some hb) (hmx : cOo mx = some mb)
    (hd : X.cx.und.get t = some (.slice e)) (hs : X.cx.size.get e = some es) (hmh : mx.isSome = true → hi.isSome = true) (ho : o.op = .slice t x lo hi mx)
    (h : (xSlS tm es st k lb hb mb (ev tm bx)).holds Θ E.va R) : ValOut X Θ R E o tm st k := by
  have hf := hS.facts
  obtain ⟨mx0, mlo, mhi, mmx⟩ := ops_slice ho
  have hu := hc.und t _ hd
  obtain ⟨x0, hx0⟩ := hO.ev hx
  cases mx with
  | none =>
    cases hmx
    unfold xSlS at h
    simp only at h
    split at h
    · rename_i a n c hev
      obtain ⟨l, hh, f, hf', h, hbn⟩ := bnds_inv (kk := fun l h st => cutK es a c k l h c st) h hf hO hlo hhi
      obtain ⟨hcut, h⟩ := vif_inv h
      obtain ⟨h1, h2, _⟩ := ble3 hcut
      rw [natK_eq, natK_eq, mkSl_eq] at h
      refine ⟨_, f, h, hf', fun E' ρ hE hR => ?_⟩
      obtain ⟨bl, bh⟩ := hbn E' ρ _ hE hR mlo mhi
      have hxv := hR.get mx0 hx
      rw [hev] at hxv
      rcases den_slice_inv hxv with ⟨rfl, rfl, e2, e0⟩ | ⟨y, ad, cp, rfl, had, e2, _, e0⟩
      · cases e2
        have e3 : hh = 0 := by omega
        have e4 : l = 0 := by omega
        subst e3; subst e4
        refine ⟨.slice none 0 0, rfl, fun w => ?_⟩
        have := run_slS (o := o) hu (hc.size' hs w) e0 (run_bounds (P := X.P) (b := true) bl bh (.inl ⟨rfl, rfl⟩) (by simp) h1 h2 (Nat.le_refl _) w) ho
        simpa using this
      · cases e2
        refine ⟨_, cut_den had h1 h2, fun w => ?_⟩
        have := run_slS (o := o) hu (hc.size' hs w) e0 (run_bounds (P := X.P) (b := true) bl bh (.inl ⟨rfl, rfl⟩) (by simp) h1 h2 (Nat.le_refl _) w) ho
        rw [this]; congr 3
        split <;> rfl
    · rename_i a i n d hev
      obtain ⟨hh, f, hb1, hf1, h, hv⟩ := bndK_inv h hf hO hhi
      obtain ⟨l, g, hb2, hf2, h, lv⟩ := bndK_inv h (by rw [withF_facts]; exact hf1) hO hlo
      rw [withF_withF] at h
      refine ⟨_, g, h, hf2, fun E' ρ hE hR => ?_⟩
      have bl := bnd_of lv hE hR mlo
      have bh := bnd_of hv hE hR mhi
      have hxv := hR.get mx0 hx
      rw [hev] at hxv
      obtain ⟨ad, c, g1, g2, g3, e0⟩ := den_sl0 hxv
      have e3 : hh = 0 := by omega
      have e4 : l = 0 := by omega
      subst e3; subst e4
      refine ⟨_, hxv, fun w => ?_⟩
      rw [run_slS (o := o) hu (hc.size' hs w) e0 (run_bounds (P := X.P) (b := true) (m := c - n) bl bh (.inl ⟨rfl, rfl⟩) (by simp) (Nat.le_refl _) (Nat.zero_le _) (Nat.le_refl _) w) ho, e0]
      congr 2
      simp [Addr.add]
    · rename_i a n i sub hev
      rw [hev] at hx0
      rw [natK_eq] at h
      obtain ⟨y, c, hya, hc0, hsub, hn⟩ : ∃ y c, a = some y ∧ E.caps[i]? = some c ∧ sub ≤ c ∧ n ≤ c - sub := by
        rcases den_slice_inv hx0 with ⟨_, _, e2, _⟩ | ⟨y, _, cp, e1, _, e2, e3, _⟩
        · cases e2
        · have e2 : cden E (.u i sub) = some cp := e2
          simp only [cden] at e2
          split at e2
          · rename_i c hcc
            split at e2
            · cases e2; exact ⟨y, c, e1, hcc, by assumption, e3⟩
            · cases e2
          · cases e2
      have hku := knownU_ok hS (es := es) (a := a) hc0 (show n + sub ≤ c by omega)
      generalize knownU es i sub n st a = mm at h hku
      obtain ⟨l, hh, f, hf', h, hbn⟩ := bnds_inv (kk := fun l h st => cutU es a mm i sub k l h st) h hf hO hlo hhi
      obtain ⟨hcut, h⟩ := vif_inv h
      obtain ⟨h1, h2⟩ := ble2 hcut
      have real : ∀ E' ρ, E.Le E' → Rd E' tm ρ o.op.operands.toList → ∃ ad cp, aden E' y = some ad ∧ E'.caps[i]? = some c ∧ cp = c - sub ∧ (∀ w, (execOp ρ o).run X.P w = .ok (.value (.slice (if cp = l then some ad else some (ad.add (l * es))) (hh - l) (cp - l))) w) := by
        intro E' ρ hE hR
        obtain ⟨bl, bh⟩ := hbn E' ρ _ hE hR mlo mhi
        have hxv := hR.get mx0 hx
        rw [hev, hya] at hxv
        rcases den_slice_inv hxv with ⟨e, _⟩ | ⟨y', ad, cp, e1, had, e2, _, e0⟩
        · cases e
        · cases e1
          have hc1 := hE.caps _ _ hc0
          have e2 : cden E' (.u i sub) = some cp := e2
          simp only [cden, hc1, if_pos hsub, Option.some.injEq] at e2
          refine ⟨ad, cp, had, hc1, e2.symm, fun w => ?_⟩
          rw [run_slS (o := o) hu (hc.size' hs w) e0 (run_bounds (P := X.P) (b := true) bl bh (.inl ⟨rfl, rfl⟩) (by simp) h1 (by omega) (Nat.le_refl _) w) ho]
          congr 3
      rcases bif_holds h with ⟨hl, h⟩ | ⟨hl, h⟩
      · rw [natK_eq, natK_eq, mkSl_eq] at h
        refine ⟨_, f, h, hf', fun E' ρ hE hR => ?_⟩
        obtain ⟨ad, cp, had, hc1, hcp, hrun⟩ := real E' ρ hE hR
        have hl' : l = 0 ∨ l < mm := by
          rw [Bool.or_eq_true] at hl
          exact hl.imp (fun h => by rwa [beq_iff, decide_eq_true_eq] at h) (fun h => by rwa [blt_iff, decide_eq_true_eq] at h)
        refine ⟨.slice (some (ad.add (l * es))) (hh - l) (cp - l), ?_, fun w => ?_⟩
        · have had' := aden_add (b := y.b) (off := y.off) had (l * es)
          rw [hya]
          simp only [addO, AV.den, natAdd, natMul, had', cden, hc1, natSub]
          rw [if_pos (by omega)]
          simp only []
          rw [if_pos (by omega)]
          congr 2; omega
        · rw [hrun w]
          congr 2
          by_cases e : cp = l
          · have e1 : l = 0 := by omega
            rw [if_pos e, e1]; simp [Addr.add]
          · rw [if_neg e]
      · rw [hya] at h
        have h : (newSl0 es i sub l k (st.withF f) y).holds Θ E.va R := h
        unfold newSl0 at h
        rw [natK_eq, natK_eq, natK_eq] at h
        refine ⟨_, f, h, hf', fun E' ρ hE hR => ?_⟩
        obtain ⟨ad, cp, had, hc1, hcp, hrun⟩ := real E' ρ hE hR
        have hl' : l = mm := by
          rw [Bool.or_eq_false_iff, blt_iff, decide_eq_false_iff_not] at hl
          omega
        refine ⟨.slice (some (if c = sub + l then ad else ad.add (l * es))) 0 (c - (sub + l)), ?_, fun w => ?_⟩
        · have : aden E' ⟨y.b, y.off⟩ = some ad := had
          simp only [AV.den, this, hc1, natAdd, natMul]
          rw [if_pos (by omega)]
        · rw [hrun w]
          congr 2
          have e5 : hh - l = 0 := by omega
          rw [e5]
          have e6 : cp - l = c - (sub + l) := by omega
          rw [e6]
          by_cases e : cp = l
          · rw [if_pos e, if_pos (by omega)]
          · rw [if_neg e, if_neg (by omega)]
    · exact h.elim
  | some my =>
    obtain ⟨b, hb', e⟩ := obind_inv hmx
    cases e
    have common : ∀ (a : Option AAddr) (n top : Nat) (cp : Cap), ev tm bx = .slice a n cp → (∀ c, cden E cp = some c → n ≤ c → top ≤ c) → (idxK (ev tm b) (Nat.succ top) st fun m st => bndK tm n m st (fun h st => bndK tm 0 h st (fun l st => vif (Nat.ble l h && (Nat.ble h m && Nat.ble m top)) (natK (Nat.sub h l) fun x => natK (Nat.sub m l) fun c => mkSl k st (bif_ (Nat.beq m l) a (addO a (Nat.mul l es))) x (.k c))) lb) hb).holds Θ E.va R →
        ValOut X Θ R E o tm st k := by
      intro a n top cp hev htop h
      obtain ⟨m, f, hm, hf1, h, kd, hmv⟩ := idxK_inv h hf (hO.ev hb')
      obtain ⟨l, hh, g, hf2, h, hbn⟩ := bnds_inv (kk := fun l h st => vif (Nat.ble l h && (Nat.ble h m && Nat.ble m top)) (natK (Nat.sub h l) fun x => natK (Nat.sub m l) fun c => mkSl k st (bif_ (Nat.beq m l) a (addO a (Nat.mul l es))) x (.k c))) h (by rw [withF_facts]; exact hf1) hO hlo hhi
      rw [withF_withF] at h
      obtain ⟨hcut, h⟩ := vif_inv h
      obtain ⟨h1, h2, h3⟩ := ble3 hcut
      rw [natK_eq, natK_eq, mkSl_eq] at h
      refine ⟨_, g, h, hf2, fun E' ρ hE hR => ?_⟩
      obtain ⟨bl, bh⟩ := hbn E' ρ _ hE hR mlo mhi
      have hbm : ∀ c, BndR ρ c m (some my) := fun c => .inr ⟨my, kd, rfl, hmv E' _ hE (hR my (mmx my rfl) b hb')⟩
      have hxv := hR.get mx0 hx
      rw [hev] at hxv hx0
      rcases den_slice_inv hx0 with ⟨e1, e2, e3, _⟩ | ⟨y, _, c, e1, _, e3, hnc, _⟩
      · subst e1 e2 e3
        have ht := htop 0 rfl (Nat.le_refl _)
        have e5 : m = 0 := by omega
        have e3 : hh = 0 := by omega
        have e4 : l = 0 := by omega
        subst e5; subst e3; subst e4
        rcases den_slice_inv hxv with ⟨_, _, _, e0⟩ | ⟨_, _, _, e, _⟩
        · refine ⟨.slice none 0 0, rfl, fun w => ?_⟩
          have := run_slS (o := o) hu (hc.size' hs w) e0 (run_bounds (P := X.P) (b := true) bl bh (hbm _) hmh (Nat.le_refl _) (Nat.le_refl _) (Nat.le_refl _) w) ho
          simpa using this
        · cases e
      · subst e1
        have ht := htop c e3 hnc
        have e3' : cden E' cp = some c := cden_mono hE e3
        rcases den_slice_inv hxv with ⟨e, _⟩ | ⟨y', ad, c', e1, had, e2, _, e0⟩
        · cases e
        · cases e1
          rw [e3'] at e2; cases e2
          refine ⟨_, cut_den had h1 h2, fun w => ?_⟩
          have := run_slS (o := o) hu (hc.size' hs w) e0 (run_bounds (P := X.P) (b := true) bl bh (hbm _) hmh h1 h2 (by omega) w) ho
          rw [this]; congr 3
          split <;> rfl
    unfold xSlS at h
    simp only at h
    split at h
    · rename_i a n c hev
      exact common a n c _ hev (fun c' h1 _ => by cases h1; exact Nat.le_refl _) h
    · rename_i a n i sub hev
      exact common a n n _ hev (fun c' _ h => h) h
    · exact h.elim
theorem xSlA_out (hc : CxOK X K w0) (hS : StRel X K w0 E st w) (hO : Oks E tm) {t e : TypeId} {n es : Nat} {x : Operand} {lo hi mx : Option Operand} {bx : BO} {lb hb mb : Option BO} (hx : cO x = some bx) (hlo : cOo lo = some lb) (hhi : cOo hi = some hb) (hmx : cOo mx = some mb)
    (hd : X.cx.und.get t = some (.array n e) ∨ ∃ p, X.cx.und.get t = some (.pointer p) ∧ X.cx.und.get p = some (.array n e)) (hs : X.cx.size.get e = some es) (hmh : mx.isSome = true → hi.isSome = true) (ho : o.op = .slice t x lo hi mx)
    (h : (xSlA tm n es st k lb hb mb (ev tm bx)).holds Θ E.va R) : ValOut X Θ R E o tm st k := by
  have hf := hS.facts
  obtain ⟨mx0, mlo, mhi, mmx⟩ := ops_slice ho
  obtain ⟨a, ha, h⟩ := vbind_inv h
  obtain ⟨m, f, _, hf1, h, mv⟩ := bndK_inv h hf hO hmx
  obtain ⟨l, hh, g, hf2, h, hbn⟩ := bnds_inv (kk := fun l h st => cutA es a n k l h m st) h (by rw [withF_facts]; exact hf1) hO hlo hhi
  rw [withF_withF] at h
  obtain ⟨hcut, h⟩ := vif_inv h
  obtain ⟨h1, h2, h3⟩ := ble3 hcut
  rw [natK_eq, natK_eq, natK_eq] at h
  refine ⟨_, g, h, hf2, fun E' ρ hE hR => ?_⟩
  obtain ⟨bl, bh⟩ := hbn E' ρ _ hE hR mlo mhi
  have bm := bnd_of mv hE hR mmx
  have hxv := hR.get mx0 hx
  rw [asPtr_inv ha] at hxv
  obtain ⟨ad, had, e0⟩ := den_ptr hxv
  refine ⟨.slice (some (if m = l then ad else ad.add (l * es))) (hh - l) (m - l), ?_, fun w => ?_⟩
  · rw [beq_iff]
    by_cases e : m = l
    · rw [decide_eq_true e, bif_true, if_pos e]
      have : aden E' ⟨a.b, a.off⟩ = some ad := had
      simp only [AV.den, this, cden, natSub]
      rw [if_pos (by omega)]
    · rw [decide_eq_false e, bif_false, if_neg e]
      have := aden_add (b := a.b) (off := a.off) had (l * es)
      simp only [AV.den, natAdd, natMul, this, cden, natSub]
      rw [if_pos (by omega)]
  · have hbs := run_bounds (P := X.P) (b := false) (n := n) (c := n) bl (by
      rcases bh with h | h
      · exact .inl h
      · exact .inr h) bm hmh h1 h2 h3 w
    rcases hd with hd | ⟨p, hd, hp⟩
    · simp [execOp, ho, e0, Instr.sliceAt, hc.und' hd, Instr.sureAddr, hbs, hc.size' hs]
    · simp [execOp, ho, e0, Instr.sliceAt, hc.und' hd, Instr.slice, asAddr, hc.und' hp, hbs, hc.size' hs]
theorem bytesOf_extract (s : List Nat) (l h : Nat) : (bytesOf s).extract l h = bytesOf ((s.drop l).take (h - l)) := by
  apply ByteArray.ext
  rw [ByteArray.data_extract]
  apply Array.ext'
  simp [bytesOf, List.map_take, List.map_drop]
theorem xSlT_out (hc : CxOK X K w0) (hS : StRel X K w0 E st w) (hO : Oks E tm) {t : TypeId} {x : Operand} {lo hi : Option Operand} {bx : BO} {lb hb : Option BO} (hx : cO x = some bx) (hlo : cOo lo = some lb) (hhi : cOo hi = some hb)
    (hd : X.cx.und.get t = some .string) (ho : o.op = .slice t x lo hi none)
    (h : (xSlT tm st k lb hb (ev tm bx)).holds Θ E.va R) : ValOut X Θ R E o tm st k := by
  have hf := hS.facts
  obtain ⟨mx0, mlo, mhi, _⟩ := ops_slice ho
  unfold xSlT at h
  split at h
  · rename_i n s hev
    obtain ⟨hh, f, hb1, hf1, h, hv⟩ := bndK_inv h hf hO hhi
    obtain ⟨l, g, hb2, hf2, h, lv⟩ := bndK_inv h (by rw [withF_facts]; exact hf1) hO hlo
    rw [withF_withF] at h
    obtain ⟨hcut, h⟩ := vif_inv h
    rw [ble_iff, decide_eq_true_eq] at hcut
    rw [natK_eq, takeL_eq, dropL_eq, natSub] at h
    refine ⟨_, g, h, hf2, fun E' ρ hE hR => ?_⟩
    have bl := bnd_of lv hE hR mlo
    have bh := bnd_of hv hE hR mhi
    have hxv := hR.get mx0 hx
    rw [hev] at hxv
    obtain ⟨hn, hs, e0⟩ := den_str hxv
    have hhn : hh ≤ n := by omega
    refine ⟨_, den_str_of (by simp; omega) (fun c hc => hs c (List.mem_of_mem_drop (List.mem_of_mem_take hc))), fun w => ?_⟩
    have hsz : (bytesOf s).size = n := by rw [bytesOf_size, hn]
    have hbs := run_bounds (P := X.P) (b := false) (n := n) (c := n) (m := n) bl bh (.inl ⟨rfl, rfl⟩) (by simp) hcut hhn (Nat.le_refl _) w
    rw [Option.map_none] at hbs
    simp [execOp, ho, e0, Instr.sliceAt, hc.und' hd, Instr.slice, hsz, hbs, bytesOf_extract]
  · exact h.elim
end
end Go.Sy
/-! Operations that leave memory as it is: all of them. -/
namespace Go.Sy
section
variable {X : Tabs} {K : Nat → Prop} {w0 : World} {E : Env} {st : St} {w : World} {Θ : Pred} {R : List Back} {tm : Tm} {k : Kt} {o : Oper}

theorem un_out {x : Operand} {b : BO} {run : Value → Sem Value} (hb : cO x = some b) (hx : x ∈ o.op.operands.toList) (hrun : ∀ ρ, execOp ρ o = (run (ρ x) >>= fun v => pure (Next.value v))) (h : Un1Out X.P Θ R E st k (ev tm b) run) : ValOut X Θ R E o tm st k := by
  obtain ⟨v, f, h1, h2, h3⟩ := h
  refine ⟨v, f, h1, h2, fun E' ρ hE hR => ?_⟩
  obtain ⟨z, hz, hr⟩ := h3 E' _ hE (hR.get hx hb)
  exact ⟨z, hz, fun w => by rw [hrun, Sem.run_bind, hr w]; rfl⟩
theorem xPick_out {c a b : Operand} {bc ba bb : BO} (hc : cO c = some bc) (ha : cO a = some ba) (hb : cO b = some bb) (ho : o.op = .pick c a b) (hO : Oks E tm) (h : (xPick tm st k ba bb (ev tm bc)).holds Θ E.va R) (hf : FOK E.va st.facts) : ValOut X Θ R E o tm st k := by
  have fin : ∀ {t : Bool} {f : List T} {y : Operand} {by_ : BO}, (if t then a else b) = y → cO y = some by_ → (k (ev tm by_) (st.withF f)).holds Θ E.va R → FOK E.va f → (∀ E' x, E.Le E' → (ev tm bc).den E' = some x → x = .bool t) → ValOut X Θ R E o tm st k := by
    intro t f y by_ hy hby hk hf ht
    refine ⟨_, f, hk, hf, fun E' ρ hE hR => ?_⟩
    have h1 := ht E' _ hE (hR.get (x := c) (by rw [ho]; simp [Op.operands]) hc)
    refine ⟨ρ y, hR.get (x := y) ?_ hby, fun w => ?_⟩
    · subst hy; rw [ho]; cases t <;> simp [Op.operands]
    · subst hy; simp only [execOp, ho, h1, asBool, Sem.run_bind, Sem.run_pure, Result.andThen_ok]; cases t <;> rfl
  unfold xPick at h
  split at h
  · rename_i hev
    exact fin (t := true) (f := st.facts) (y := a) rfl ha (by rw [withF_self]; exact h) hf (by rw [hev]; exact bool_den)
  · rename_i hev
    exact fin (t := false) (f := st.facts) (y := b) rfl hb (by rw [withF_self]; exact h) hf (by rw [hev]; exact bool_den)
  · rename_i c' hev
    have hoc := hO.ev hc
    rw [hev] at hoc
    obtain ⟨b', hb', hd⟩ := cnd_inv hoc
    obtain ⟨f, hf', h⟩ := brK_inv h hf hb'
    rcases h with ⟨e, h⟩ | ⟨e, h⟩
    · subst e; exact fin (t := true) (f := f) (y := a) rfl ha h hf' (by rw [hev]; exact hd)
    · subst e; exact fin (t := false) (f := f) (y := b) rfl hb h hf' (by rw [hev]; exact hd)
  · exact h.elim
theorem xNilc_out {x : Operand} {b : BO} (hb : cO x = some b) (ho : o.op = .nilCheck x) (h : (xNilc st k (ev tm b)).holds Θ E.va R) (hf : FOK E.va st.facts) : ValOut X Θ R E o tm st k := by
  have hx : x ∈ o.op.operands.toList := by rw [ho]; simp [Op.operands]
  unfold xNilc at h
  split at h
  · rename_i a hev
    refine .now h hf fun E' ρ hE hR => ?_
    have hx := hR.get hx hb
    rw [hev] at hx
    obtain ⟨ad, _, e0⟩ := den_ptr hx
    exact ⟨_, hx, fun w => by simp [execOp, ho, e0]⟩
  · rename_i f a c hev
    refine .now h hf fun E' ρ hE hR => ?_
    have hx := hR.get hx hb
    rw [hev] at hx
    obtain ⟨xs, ys, _, _, e0⟩ := den_func' hx
    exact ⟨_, hx, fun w => by simp [execOp, ho, e0]⟩
  · rename_i l hev
    refine .now h hf fun E' ρ hE hR => ?_
    have hx := hR.get hx hb
    rw [hev] at hx
    obtain ⟨id, _, e0⟩ := den_yld hx
    exact ⟨_, hx, fun w => by simp [execOp, ho, e0]⟩
  · exact h.elim
theorem xExt_out {x : Operand} {i : Nat} {b : BO} (hb : cO x = some b) (ho : o.op = .extract x i) (h : (xExt i st k (ev tm b)).holds Θ E.va R) (hf : FOK E.va st.facts) : ValOut X Θ R E o tm st k := by
  unfold xExt at h
  split at h
  · rename_i l hev
    obtain ⟨v, hv, h⟩ := outK_inv h
    rw [getL_eq] at hv
    refine .now h hf fun E' ρ hE hR => ?_
    have hx := hR.get (x := x) (by rw [ho]; simp [Op.operands]) hb
    rw [hev] at hx
    simp only [AV.den, Option.map_eq_some_iff] at hx
    obtain ⟨xs, hxs, e0⟩ := hx
    obtain ⟨y, h1, h2⟩ := denL_get hxs hv
    exact ⟨y, h1, fun w => by simp [execOp, ho, ← e0, Instr.extract, h2]⟩
  · exact h.elim
theorem xMkf_out {fn : Fn} {a c : Array Operand} {ba bc : List BO} (ha : cOs a.toList = some ba) (hc : cOs c.toList = some bc) (ho : o.op = .makeFunc fn a c) (h : (k (.func fn (evs tm ba) (evs tm bc)) st).holds Θ E.va R) (hf : FOK E.va st.facts) : ValOut X Θ R E o tm st k := by
  refine .now h hf fun E' ρ hE hR => ?_
  have e1 : (a.toList.map ρ).toArray = a.map ρ := by apply Array.ext'; simp
  have e2 : (c.toList.map ρ).toArray = c.map ρ := by apply Array.ext'; simp
  refine ⟨.func fn (a.map ρ) (c.map ρ), ?_, fun w => by simp [execOp, ho, Instr.makeFunc]⟩
  have h1 := cOs_inv (tm := tm) ha (E := E') (ρ := ρ) fun x hx => hR x (by rw [ho]; simp [Op.operands]; simp at hx; exact .inl hx)
  have h2 := cOs_inv (tm := tm) hc (E := E') (ρ := ρ) fun x hx => hR x (by rw [ho]; simp [Op.operands]; simp at hx; exact .inr hx)
  simp only [AV.den, h1, h2, e1, e2]
theorem xMki_out (hc : CxOK X K w0) {t : TypeId} {x : Operand} {b : BO} {d : TypeDesc} (hb : cO x = some b) (hd : X.cx.und.get t = some d) (hn : notIface d = true) (ho : o.op = .makeInterface t x) (h : (k (.iface t (ev tm b)) st).holds Θ E.va R) (hf : FOK E.va st.facts) : ValOut X Θ R E o tm st k := by
  refine .now h hf fun E' ρ hE hR => ?_
  have hx := hR.get (x := x) (by rw [ho]; simp [Op.operands]) hb
  refine ⟨.iface t (ρ x), by simp [AV.den, hx], fun w => ?_⟩
  simp only [execOp, ho, Instr.makeInterface, Sem.run_bind, hc.und' hd, Result.andThen_ok]
  cases d <;> first | rfl | (cases hn)
theorem xS2a_out (hc : CxOK X K w0) {t e : TypeId} {n : Nat} {x : Operand} {b : BO} (hb : cO x = some b) (hd : X.cx.und.get t = some (.array n e)) (ho : o.op = .sliceToArrayPointer t x) (h : (xS2a n st k (ev tm b)).holds Θ E.va R) (hf : FOK E.va st.facts) : ValOut X Θ R E o tm st k := by
  unfold xS2a at h
  split at h
  · rename_i a m c hev
    obtain ⟨hcond, h⟩ := vif_inv h
    rw [ble_iff, decide_eq_true_eq] at hcond
    refine .now h hf fun E' ρ hE hR => ?_
    have hx := hR.get (x := x) (by rw [ho]; simp [Op.operands]) hb
    rw [hev] at hx
    have hlt : ¬ m < n := by omega
    rcases den_slice_inv hx with ⟨rfl, _, _, e0⟩ | ⟨p, ad, cp, rfl, had, _, _, e0⟩
    · rename_i hm _
      refine ⟨.pointer none, rfl, fun w => ?_⟩
      subst hm
      simp [execOp, ho, e0, Instr.arrayAt, hc.und' hd, show ¬ 0 < n by omega]
    · exact ⟨.pointer (some ad), den_ptr_of had, fun w => by simp [execOp, ho, e0, Instr.arrayAt, hc.und' hd, hlt]⟩
  · exact h.elim
/-- A type's first value. -/
theorem zeroV_sound (hc : CxOK X K w0) {t : TypeId} {z : AV} (h : zeroV X.cx.und X.cx.size X.cx.zero t = some z) : ∃ y, (∀ E, z.den E = some y) ∧ ∀ w, (zeroValue t).run X.P w = .ok y w := by
  obtain ⟨g, hg, h⟩ := obind_inv h
  obtain ⟨l, hl, h⟩ := obind_inv h
  obtain ⟨i, v, h1, h2, h3, h4, h5, h6⟩ := hc.zero t l hl
  have hrun : ∀ w, (zeroValue t).run X.P w = .ok v w := fun w => by simp [zeroValue, typeInfo, h1, h2, Sem.run, program]
  obtain ⟨d, hd, hg⟩ := obind_inv hg
  have hagg := h6 d hd
  refine ⟨v, ?_, hrun⟩
  cases e : isAggD d with
  | true =>
    rw [e, bif_true] at hg
    obtain ⟨n, _, hg⟩ := obind_inv hg
    cases hg
    cases h
    rw [e] at hagg
    cases v <;> first | (cases hagg; done) | skip
    intro E
    have := h5 E
    simp only [Value.cells] at this
    simp [AV.den, this]
  | false =>
    rw [e, bif_false] at hg
    cases hg
    change getL 0 l = some z at h
    rw [getL_eq] at h
    rw [e] at hagg
    intro E
    obtain ⟨y, g1, g2⟩ := denL_get (h5 E) h
    have : v.cells = #[v] := by cases v <;> first | (cases hagg; done) | rfl
    rw [this] at g2
    simp at g2
    rw [g1, g2]
theorem xTass_out (hc : CxOK X K w0) {t xt : TypeId} {x : Operand} {ok : Bool} {z : AV} {d : TypeDesc} {b : BO} (hb : cO x = some b) (hd : X.cx.und.get t = some d) (hn : notIface d = true) (hz : zeroV X.cx.und X.cx.size X.cx.zero t = some z) (ho : o.op = .typeAssert x xt t ok)
    (h : (xTass t z ok st k (ev tm b)).holds Θ E.va R) (hf : FOK E.va st.facts) : ValOut X Θ R E o tm st k := by
  obtain ⟨y, hy, hzr⟩ := zeroV_sound hc hz
  have hx : x ∈ o.op.operands.toList := by rw [ho]; simp [Op.operands]
  have hex : ∀ ρ w, (execOp ρ o).run X.P w = ((Instr.typeAssert (ρ x) xt t ok) >>= fun v => pure (Next.value v) : Sem Next).run X.P w := fun ρ w => by simp only [execOp, ho]
  have hnil : ∀ w, (Instr.typeAssert .nilIface xt t true).run X.P w = .ok (.tuple #[y, .bool false]) w := by
    intro w
    unfold Instr.typeAssert
    simp only [Sem.run_bind, hc.und' hd, Result.andThen_ok]
    cases d <;> first | (cases hn; done) | (simp [hzr])
  have hhit : ∀ w v, (Instr.typeAssert (.iface t v) xt t ok).run X.P w = .ok (if ok then .tuple #[v, .bool true] else v) w := by
    intro w v
    unfold Instr.typeAssert
    simp only [Sem.run_bind, hc.und' hd, Result.andThen_ok]
    cases d <;> first | (cases hn; done) | simp
  have hmiss : ∀ w u v, u ≠ t → (Instr.typeAssert (.iface u v) xt t true).run X.P w = .ok (.tuple #[y, .bool false]) w := by
    intro w u v hne
    unfold Instr.typeAssert
    simp only [Sem.run_bind, hc.und' hd, Result.andThen_ok]
    cases d <;> first | (cases hn; done) | (simp [hne, hzr])
  have htup : ∀ E', (AV.tuple [z, .bool false]).den E' = some (.tuple #[y, .bool false]) := fun E' => by
    have : denL E' [z, .bool false] = some [y, .bool false] := denL_cons.2 ⟨_, _, hy E', denL_cons.2 ⟨_, _, rfl, rfl, rfl⟩, rfl⟩
    simp [AV.den, this]
  unfold xTass at h
  split at h
  · rename_i hev
    obtain ⟨hok, h⟩ := vif_inv h
    subst hok
    refine .now h hf fun E' ρ hE hR => ⟨_, htup E', fun w => ?_⟩
    have hx := hR.get hx hb
    rw [hev] at hx
    simp only [AV.den, Option.some.injEq] at hx
    rw [hex, ← hx]; simp [hnil w]
  · rename_i u v hev
    rw [beq_iff] at h
    rcases bif_holds h with ⟨e, hh⟩ | ⟨e, hh⟩
    · have hut := of_decide_eq_true e
      clear e h
      subst hut
      rcases boolRec hh with ⟨hok, h2⟩ | ⟨hok, h2⟩
      · subst hok
        refine .now h2 hf fun E' ρ hE hR => ?_
        have hx := hR.get hx hb
        rw [hev] at hx
        obtain ⟨y', h1, e0⟩ := den_iface' hx
        have : denL E' [v, .bool true] = some [y', .bool true] := denL_cons.2 ⟨_, _, h1, denL_cons.2 ⟨_, _, rfl, rfl, rfl⟩, rfl⟩
        refine ⟨.tuple #[y', .bool true], by simp [AV.den, this], fun w => ?_⟩
        rw [hex, e0]; simp [hhit w y']
      · subst hok
        refine .now h2 hf fun E' ρ hE hR => ?_
        have hx := hR.get hx hb
        rw [hev] at hx
        obtain ⟨y', h1, e0⟩ := den_iface' hx
        refine ⟨y', h1, fun w => ?_⟩
        rw [hex, e0]; simp [hhit w y']
    · obtain ⟨hok, h2⟩ := vif_inv hh
      clear h hh
      subst hok
      refine .now h2 hf fun E' ρ hE hR => ⟨_, htup E', fun w => ?_⟩
      have hx := hR.get hx hb
      rw [hev] at hx
      obtain ⟨y', h1, e0⟩ := den_iface' hx
      rw [hex, e0]; simp [hmiss w u y' (of_decide_eq_false e)]
  · exact h.elim

/-! ### Built-in functions -/
theorem lenK_inv {n : Nat} (h : (lenK n st k).holds Θ E.va R) : n < 9223372036854775808 ∧ (k (.int .i64 n) st).holds Θ E.va R := by
  obtain ⟨h1, h2⟩ := vif_inv h
  rw [blt_iff, decide_eq_true_eq] at h1
  exact ⟨h1, h2⟩
theorem run_builtin {P : Program} {ρ : Operand → Value} {b : Builtin} {args : Array Operand} {tys : Array TypeId} {s : Sem Value} (ho : o.op = .call ⟨.builtin b, args, tys⟩) (hb : ∀ consts, Go.builtin b tys o.type consts (args.map ρ) = (s >>= fun v => pure (Next.value v))) (w : World) :
    (execOp ρ o).run P w = (s >>= fun v => pure (Next.value v) : Sem Next).run P w := by
  simp only [execOp, ho, resolve, Sem.run_bind, Sem.run_pure, Result.andThen_ok, invoke, hb]
theorem ops_call {b : Builtin} {args : Array Operand} {tys : Array TypeId} (ho : o.op = .call ⟨.builtin b, args, tys⟩) : o.op.operands.toList = args.toList := by
  rw [ho]; simp [Op.operands, Call.operands]
theorem cOs_get : ∀ {l : List Operand} {bs : List BO} {i : Nat} {b : BO}, cOs l = some bs → bs[i]? = some b → ∃ x, l[i]? = some x ∧ cO x = some b
  | [], bs, i, b, h, hb => by cases h; simp at hb
  | x :: l, bs, i, b, h, hb => by
    change obind (cO x) (fun b => obind (cOs l) fun r => some (b :: r)) = some bs at h
    obtain ⟨c, hc, h⟩ := obind_inv h
    obtain ⟨r, hr, h⟩ := obind_inv h
    cases h
    cases i with
    | zero => simp at hb; subst hb; exact ⟨x, by simp, hc⟩
    | succ i => obtain ⟨y, h1, h2⟩ := cOs_get hr (i := i) (by simpa using hb); exact ⟨y, by simpa using h1, h2⟩
/-- One argument. -/
theorem arg_get {b : Builtin} {args : Array Operand} {tys : Array TypeId} {bs : List BO} (ho : o.op = .call ⟨.builtin b, args, tys⟩) (hb : cOs args.toList = some bs) {i : Nat} {bx : BO} (hx : getL i bs = some bx) :
    ∃ x, args[i]? = some x ∧ cO x = some bx ∧ ∀ E' ρ, Rd E' tm ρ o.op.operands.toList → (ev tm bx).den E' = some (ρ x) ∧ (args.map ρ)[i]? = some (ρ x) := by
  rw [getL_eq] at hx
  obtain ⟨x, h1, h2⟩ := cOs_get hb hx
  have h1' : args[i]? = some x := by simpa using h1
  exact ⟨x, h1', h2, fun E' ρ hR => ⟨hR.get (by rw [ops_call ho]; exact List.mem_of_getElem? h1) h2, by simp [h1']⟩⟩
theorem tys_get {tys : Array TypeId} {i : Nat} {t : TypeId} (h : getL i tys.toList = some t) : tys[i]? = some t := by rw [getL_eq] at h; simpa using h
theorem cLen_out (hc : CxOK X K w0) {args : Array Operand} {tys : Array TypeId} {bs : List BO} {t : TypeId} {d : TypeDesc} {n : Option Nat} {bx : BO} (hcap : Bool) (ho : o.op = .call ⟨.builtin (if hcap then .cap else .len), args, tys⟩) (hb : cOs args.toList = some bs) (ht : getL 0 tys.toList = some t) (hx : getL 0 bs = some bx) (hd : X.cx.und.get t = some d)
    (hn : lenN X.cx.und d = some (some n)) (hs : hcap = true → isStrD d = false) (h : (Option.rec ((if hcap then xCap st k (ev tm bx) else xLen (isStrD d) st k (ev tm bx))) (fun n => lenK n st k) n : VC).holds Θ E.va R) (hf : FOK E.va st.facts) : ValOut X Θ R E o tm st k := by
  obtain ⟨x, hx1, hx2, hx3⟩ := arg_get (tm := tm) ho hb hx
  have ht1 := tys_get ht
  have hu := hc.und t d hd
  have fin : ∀ {v : AV} {s : (Operand → Value) → Sem Value}, (∀ ρ consts, Go.builtin (if hcap then .cap else .len) tys o.type consts (args.map ρ) = (s ρ >>= fun v => pure (Next.value v))) → (k v st).holds Θ E.va R → (∀ E' ρ, E.Le E' → Rd E' tm ρ o.op.operands.toList → ∃ y, v.den E' = some y ∧ ∀ w, (s ρ).run X.P w = .ok y w) → ValOut X Θ R E o tm st k := by
    intro v s hs hk hall
    refine .now hk hf fun E' ρ hE hR => ?_
    obtain ⟨y, h1, h2⟩ := hall E' ρ hE hR
    exact ⟨y, h1, fun w => by rw [run_builtin ho (hs ρ)]; simp [h2 w]⟩
  cases n with
  | some n =>
    obtain ⟨hlt, h⟩ := lenK_inv h
    have hres : ∀ ρ w, ((if hcap then Builtin.cap_ tys o.type (args.map ρ) else Builtin.len_ tys o.type (args.map ρ))).run X.P w = .ok (goInt n) w := by
      intro ρ w
      have e1 : (args.map ρ)[0]? = some (ρ x) := by simp [hx1]
      unfold lenN at hn
      split at hn
      · cases hn
      · cases hn
      · cases hn
      · cases hn
        cases hcap <;> simp [Builtin.cap_, Builtin.len_, ht1, e1, run_underlying hu]
      · rename_i p
        obtain ⟨d2, hd2, hn⟩ := obind_inv hn
        split at hn
        · cases hn
          cases hcap <;> simp [Builtin.cap_, Builtin.len_, ht1, e1, run_underlying hu, hc.und' hd2]
        · cases hn
      · cases hn
    refine fin (s := fun ρ => if hcap then Builtin.cap_ tys o.type (args.map ρ) else Builtin.len_ tys o.type (args.map ρ)) (fun ρ consts => by cases hcap <;> rfl) h fun E' ρ hE hR => ⟨_, den_i64 hlt, fun w => hres ρ w⟩
  | none =>
    have hdd : (∃ e, d = .slice e) ∨ d = .string := by
      unfold lenN at hn
      split at hn
      · exact .inl ⟨_, rfl⟩
      · exact .inr rfl
      · cases hn
      · cases hn
      · obtain ⟨d2, hd2, hn⟩ := obind_inv hn
        split at hn <;> cases hn
      · cases hn
    have go : ∀ {m : Nat}, m < 9223372036854775808 → (k (.int .i64 m) st).holds Θ E.va R → (∀ E' ρ, E.Le E' → Rd E' tm ρ o.op.operands.toList → ∀ w, (if hcap then Builtin.cap_ tys o.type (args.map ρ) else Builtin.len_ tys o.type (args.map ρ)).run X.P w = .ok (goInt m) w) → ValOut X Θ R E o tm st k := by
      intro m hm hk hall
      exact fin (s := fun ρ => if hcap then Builtin.cap_ tys o.type (args.map ρ) else Builtin.len_ tys o.type (args.map ρ)) (fun ρ consts => by cases hcap <;> rfl) hk fun E' ρ hE hR => ⟨_, den_i64 hm, hall E' ρ hE hR⟩
    cases hcap with
    | true =>
      have h : (xCap st k (ev tm bx)).holds Θ E.va R := h
      unfold xCap at h
      split at h
      · rename_i a n c hev
        obtain ⟨hlt, h⟩ := lenK_inv h
        refine go hlt h fun E' ρ hE hR w => ?_
        obtain ⟨hx, hxa⟩ := hx3 E' ρ hR
        have hsl : ∃ e, d = .slice e := by
          rcases hdd with h | h
          · exact h
          · have := hs rfl; rw [h] at this; cases this
        obtain ⟨e, rfl⟩ := hsl
        rw [hev] at hx
        rcases den_slice_inv hx with ⟨_, _, e2, e0⟩ | ⟨_, _, _, _, _, e2, _, e0⟩
        · cases e2; simp [Builtin.cap_, ht1, hxa, run_underlying hu, e0]
        · cases e2; simp [Builtin.cap_, ht1, hxa, run_underlying hu, e0]
      · exact h.elim
    | false =>
      have h : (xLen (isStrD d) st k (ev tm bx)).holds Θ E.va R := h
      have sl : isStrD d = false → ∃ e, d = .slice e := fun hf => by
        rcases hdd with h | h
        · exact h
        · rw [h] at hf; cases hf
      unfold xLen at h
      split at h
      · rename_i a n c hev
        obtain ⟨hst, h1⟩ := vif_inv h
        obtain ⟨hlt, h2⟩ := lenK_inv h1
        obtain ⟨e, rfl⟩ := sl (by simpa using hst)
        refine go hlt h2 fun E' ρ hE hR w => ?_
        obtain ⟨hx, hxa⟩ := hx3 E' ρ hR
        rw [hev] at hx
        obtain ⟨ad, cp, e0, _⟩ := den_slice' hx
        simp [Builtin.len_, ht1, hxa, run_underlying hu, e0]
      · rename_i a i n d' hev
        obtain ⟨hst, h1⟩ := vif_inv h
        obtain ⟨e, rfl⟩ := sl (by simpa using hst)
        refine go (m := 0) (by omega) h1 fun E' ρ hE hR w => ?_
        obtain ⟨hx, hxa⟩ := hx3 E' ρ hR
        rw [hev] at hx
        obtain ⟨ad, cp, _, _, _, e0⟩ := den_sl0 hx
        simp [Builtin.len_, ht1, hxa, run_underlying hu, e0]
      · rename_i n s hev
        obtain ⟨hst, h1⟩ := vif_inv h
        obtain ⟨hlt, h2⟩ := lenK_inv h1
        have hds : d = .string := by
          rcases hdd with ⟨e, h⟩ | h
          · rw [h] at hst; cases hst
          · exact h
        subst hds
        refine go hlt h2 fun E' ρ hE hR w => ?_
        obtain ⟨hx, hxa⟩ := hx3 E' ρ hR
        rw [hev] at hx
        obtain ⟨h1, h2, e0⟩ := den_str hx
        simp [Builtin.len_, ht1, hxa, run_underlying hu, e0, bytesOf_size, h1]
      · exact h.elim
theorem xMinmax_out {args : Array Operand} {tys : Array TypeId} {bs : List BO} {mx : Bool} (ho : o.op = .call ⟨.builtin (if mx then .max else .min), args, tys⟩) (hb : cOs args.toList = some bs) (hO : Oks E tm) (h : (xMinmax mx st k (evs tm bs)).holds Θ E.va R) (hf : FOK E.va st.facts) : ValOut X Θ R E o tm st k := by
  have hoks : ∀ {l : List Operand} {bs : List BO}, cOs l = some bs → ∀ u ∈ evs tm bs, okv E u := by
    intro l
    induction l with
    | nil => intro bs h u hu; cases h; cases hu
    | cons x l ih =>
      intro bs h u hu
      change obind (cO x) (fun b => obind (cOs l) fun r => some (b :: r)) = some bs at h
      obtain ⟨c, hc, h⟩ := obind_inv h
      obtain ⟨r, hr, h⟩ := obind_inv h
      cases h
      change u ∈ ev tm c :: evs tm r at hu
      cases hu with
      | head => exact hO.ev hc
      | tail _ hu => exact ih hr u hu
  have hoks := hoks hb
  unfold xMinmax at h
  split at h
  · exact h.elim
  · rename_i v l hev
    rw [hev] at hoks
    obtain ⟨u, f, h1, hf', h2⟩ := mmL_inv (P := X.P) h hf (hoks v (by simp)) (fun y hy => hoks y (List.mem_cons_of_mem _ hy))
    refine ⟨u, f, h1, hf', fun E' ρ hE hR => ?_⟩
    rw [ops_call ho] at hR
    have hd := cOs_inv (tm := tm) hb hR
    rw [hev] at hd
    obtain ⟨x, xs, hx, hxs, hmap⟩ := denL_cons.1 hd
    obtain ⟨z, hz, hrun⟩ := h2 E' x xs hE hx hxs
    refine ⟨z, hz, fun w => ?_⟩
    have e1 : (args.map ρ).toList = x :: xs := by rw [← hmap]; simp
    rw [run_builtin (s := if mx then Builtin.max_ tys o.type (args.map ρ) else Builtin.min_ tys o.type (args.map ρ)) ho (fun consts => by cases mx <;> rfl)]
    have hmm : (if mx then Builtin.max_ tys o.type (args.map ρ) else Builtin.min_ tys o.type (args.map ρ)).run X.P w = .ok z w := by
      have := hrun w
      cases mx
      · simp only [Bool.false_eq_true, if_false, Builtin.min_, e1]; exact this
      · simp only [if_true, Builtin.max_, e1]; exact this
    rw [Sem.run_bind, hmm]; rfl

/-! ### Conversions that only look at values -/
theorem run_conv {P : Program} {ρ : Operand → Value} {s d : TypeId} {x : Operand} (ho : o.op = .convert s d x) (w : World) : (execOp ρ o).run P w = ((convert s d (ρ x)) >>= fun v => pure (Next.value v) : Sem Next).run P w := by simp only [execOp, ho]
theorem conv_int {P : Program} {s d : TypeId} {sd : TypeDesc} {kd j : IntKind} {n : Int} (hs : P.underlying s = some sd) (hd : P.underlying d = some (.int kd)) (w : World) : (convert s d (.int j n)).run P w = .ok (.int kd (kd.wrap n)) w := by
  unfold convert
  simp only [Sem.run_bind, run_underlying hs, run_underlying hd, Result.andThen_ok]
  cases sd <;> simp [Conv.intToInt]
theorem encode_small {c : Nat} (h : c < 128) : Utf8.encode (c : Int) = bytesOf [c] := by
  unfold Utf8.encode
  have hv : Utf8.valid (c : Int) = true := by unfold Utf8.valid; simp; omega
  simp only [hv, if_true, Int.toNat_natCast]
  rw [if_pos h]; rfl
theorem conv1_out (hc : CxOK X K w0) {s d : TypeId} {sd dd : TypeDesc} {x : Operand} {b : BO} (hb : cO x = some b) (hs : X.cx.und.get s = some sd) (hd : X.cx.und.get d = some dd) (ho : o.op = .convert s d x) (hne : isEffC sd dd = false) (hO : Oks E tm)
    (h : (conv1 X.cx st k (ebOf X.cx.und sd dd) (Nat.beq s d) dd (ev tm b)).holds Θ E.va R) (hf : FOK E.va st.facts) : ValOut X Θ R E o tm st k := by
  have hx : x ∈ o.op.operands.toList := by rw [ho]; simp [Op.operands]
  have hus := hc.und s sd hs
  have hud := hc.und d dd hd
  have hov := hO.ev hb
  unfold conv1 at h
  split at h
  · rename_i kd
    split at h
    · rename_i j u hev
      refine .now h hf fun E' ρ hE hR => ?_
      have hx := hR.get hx hb
      rw [hev] at hx
      obtain ⟨hu, e0⟩ := den_int hx
      obtain ⟨h1, h2⟩ := convU_eq j kd hu
      exact ⟨_, den_int_of h1, fun w => by rw [run_conv ho, e0, Sem.run_bind, conv_int hus hud, h2]; rfl⟩
    · rename_i j t hev
      rw [hev] at hov
      obtain ⟨n, h1, h2, h3⟩ := toT_inv (v := .sym j t) rfl hov
      have hall : ∀ E' ρ, E.Le E' → Rd E' tm ρ o.op.operands.toList → ∀ w, (execOp ρ o).run X.P w = .ok (.value (.int kd (kd.wrap n))) w := fun E' ρ hE hR w => by
        have hx := hR.get hx hb
        rw [hev] at hx
        rw [run_conv ho, h3 E' _ hE hx, Sem.run_bind, conv_int hus hud]; rfl
      rcases bif_holds h with ⟨e, h⟩ | ⟨e, h⟩
      · have e := kbeq_eq e
        refine .now h hf fun E' ρ hE hR => ⟨_, den_sym_of (ev_mono hE.va h1) (by rw [← e]; exact h2), fun w => ?_⟩
        have := hall E' ρ hE hR w
        rw [← e, wf_wrap h2] at this
        rw [← e]; exact this
      · refine .now h hf fun E' ρ hE hR => ⟨_, den_sym_of (t := .conv kd t) (by simp only [T.ev, ev_mono hE.va h1]) (wrap_wf _ _), hall E' ρ hE hR⟩
    · exact h.elim
  · split at h
    · rename_i n s' hev
      refine .now h hf fun E' ρ hE hR => ?_
      have hx := hR.get hx hb
      rw [hev] at hx
      obtain ⟨_, _, e0⟩ := den_str hx
      refine ⟨_, hx, fun w => ?_⟩
      rw [run_conv ho, e0]
      unfold convert
      simp only [Sem.run_bind, run_underlying hus, run_underlying hud, Result.andThen_ok]
      cases sd <;> simp
    · rename_i j u hev
      rw [hev] at hov
      obtain ⟨u', hu', h⟩ := vbind_inv h
      obtain ⟨hlt, h⟩ := vif_inv h
      obtain ⟨j', e1, e2, _⟩ := natOf_inv hu' hov
      cases e1
      rw [blt_iff, decide_eq_true_eq] at hlt
      refine .now h hf fun E' ρ hE hR => ?_
      have hx := hR.get hx hb
      rw [hev] at hx
      obtain ⟨_, e0⟩ := den_int hx
      refine ⟨_, den_str_of (n := 1) (s := [u]) rfl (by intro c hc; rw [List.mem_singleton.1 hc]; omega), fun w => ?_⟩
      rw [run_conv ho, e0, e2]
      unfold convert
      simp only [Sem.run_bind, run_underlying hus, run_underlying hud, Result.andThen_ok]
      cases sd <;> simp [Conv.intToString, encode_small hlt]
    · obtain ⟨he, h⟩ := vif_inv h
      exfalso
      cases sd <;> first | (cases hne; done) | (cases he; done)
  · cases sd <;> cases hne
  · exact h.elim
end
end Go.Sy
/-! Operations that may come late. -/
namespace Go.Sy
section
variable {X : Tabs} {K : Nat → Prop} {w0 : World} {E : Env} {st : St} {w : World} {Θ : Pred} {R : List Back} {tm : Tm} {k : Kt} {o : Oper}

/-- What an operation laid aside is still as it was. -/
def Held (n n' : Nat) (st' : St) (E'' : Env) (st'' : St) : Prop := ∀ k, n ≤ k → k < n' → E''.m[k]? = some none ∧ st''.heap.get k = st'.heap.get k ∧ st''.x.objs.get k = st'.x.objs.get k
/-- Whenever it comes, it yields v's value. -/
def Late (X : Tabs) (K : Nat → Prop) (w0 : World) (o : Oper) (tm : Tm) (bo : BOp) (v : AV) (E E' : Env) (st' : St) : Prop :=
  ∀ E'' st'' w'' ρ, E'.Le E'' → Held E.m.length E'.m.length st' E'' st'' → StRel X K w0 E'' st'' w'' → Rd E'' tm ρ o.op.operands.toList → (∀ n a, bo = .load n a → ∀ x, asPtr (ev tm a) = some x → loadVar X.cx st'' n x = some v) →
    ∃ E3 y w3, E''.Le E3 ∧ E3.va = E''.va ∧ (execOp ρ o).run X.P w'' = .ok (.value y) w3 ∧ StRel X K w0 E3 st'' w3 ∧ v.den E3 = some y ∧ ∀ j, (j < E.m.length ∨ E'.m.length ≤ j) → E''.m[j]? = some none → E3.m[j]? = some none
def KeepH (st st' : St) : Prop := ∀ k b, st.heap.get k = some b → st'.heap.get k = some b
/-- What is new has no place yet. -/
def NewH (E E' : Env) : Prop := ∀ k, E.m.length ≤ k → k < E'.m.length → E'.m[k]? = some none
theorem NewH.refl (E : Env) : NewH E E := fun k h h' => absurd h' (by omega)
theorem NewH.push (E : Env) : NewH E (E.push none) := fun k h h' => by
  have : k = E.m.length := by simp [Env.push] at h'; omega
  subst this; exact push_new E none
/-- What was loaded stands there. -/
def LdNow (X : Tabs) (tm : Tm) (bo : BOp) (v : AV) (st : St) : Prop := ∀ n a, bo = .load n a → ∀ x, asPtr (ev tm a) = some x → loadVar X.cx st n x = some v
theorem LdNow.of {bo : BOp} {v : AV} (h : ∀ n a, bo ≠ .load n a) : LdNow X tm bo v st := fun n a e => absurd e (h n a)
def MovOut (X : Tabs) (K : Nat → Prop) (w0 : World) (Θ : Pred) (R : List Back) (E : Env) (o : Oper) (tm : Tm) (bo : BOp) (st : St) (w : World) (k : Kt) : Prop :=
  ∃ v st' E', (k v st').holds Θ E'.va R ∧ E.Le E' ∧ StRel X K w0 E' st' w ∧ HP E E' st st' ∧ okv E' v ∧ KeepH st st' ∧ NewH E E' ∧ LdNow X tm bo v st' ∧ Late X K w0 o tm bo v E E' st'

theorem ValOut.mov {bo : BOp} (h : ValOut X Θ R E o tm st k) (hS : StRel X K w0 E st w) (hO : Oks E tm) (hbo : ∀ n a, bo ≠ .load n a := by intro _ _ hh; cases hh) : MovOut X K w0 Θ R E o tm bo st w k := by
  obtain ⟨v, f, h1, h2, h3⟩ := h
  refine ⟨v, st.withF f, E, h1, .refl _, hS.withF h2, hp_withF _ _ _, ?_, fun k b hb => by rw [withF_heap]; exact hb, .refl E, .of hbo, fun E'' st'' w'' ρ hE _ hS'' hR _ => ?_⟩
  · obtain ⟨ρ, hR⟩ := hO.rd o.op.operands.toList
    obtain ⟨y, hy, _⟩ := h3 E.fill ρ E.le_fill hR
    exact ⟨y, hy⟩
  · obtain ⟨y, hy, hrun⟩ := h3 E'' ρ hE hR
    exact ⟨E'', y, w'', .refl _, rfl, hrun w'', hS'', hy, fun _ _ h => h⟩

/-! ### Loads -/
theorem readB_okv (hc : CxOK X K w0) (hS : StRel X K w0 E st w) {b : Bid} {i : Nat} {v : AV} (h : readB X.cx st i b = some v) : okv E v := by
  cases b with
  | g n =>
    obtain ⟨t, ht, h⟩ := obind_inv h
    obtain ⟨x, h1, _⟩ := (hc.glob n t ht).2 _ v h
    exact ⟨x, h1 _⟩
  | r j =>
    obtain ⟨bl, hbl, h⟩ := obind_inv h
    rcases hS.blks j bl hbl with h0 | ⟨id, sh, cs, el, fr, _, _, hr⟩
    · exact h0.2.2 _ v h
    · obtain ⟨x, h1, _⟩ := hr.cells _ v h; exact okv_of h1
  | a k =>
    obtain ⟨t, ht, h⟩ := obind_inv h
    obtain ⟨b', o', _, _, hg⟩ := hS.ext.ro k t ht
    obtain ⟨x, h1, _⟩ := hg _ v h
    exact okv_of h1
theorem okl_of {l : List AV} (h : ∀ v ∈ l, okv E v) : ∃ xs, denL E.fill l = some xs := by
  induction l with
  | nil => exact ⟨[], rfl⟩
  | cons v l ih =>
    obtain ⟨x, hx⟩ := h v (by simp)
    obtain ⟨xs, hxs⟩ := ih fun u hu => h u (List.mem_cons_of_mem _ hu)
    exact ⟨x :: xs, denL_cons.2 ⟨x, xs, hx, hxs, rfl⟩⟩
theorem cellsFrom_okv (hc : CxOK X K w0) (hS : StRel X K w0 E st w) {b : Bid} {n i : Nat} {l : List AV} (h : cellsFrom X.cx st n i b = some l) : ∀ v ∈ l, okv E v := by
  intro v hv
  obtain ⟨j, hj⟩ := List.getElem?_of_mem hv
  exact readB_okv hc hS ((cellsFrom_spec h).2 j v hj)
theorem loadVar_okv (hc : CxOK X K w0) (hS : StRel X K w0 E st w) {n : Option Nat} {x : AAddr} {v : AV} (h : loadVar X.cx st n x = some v) : okv E v := by
  cases n with
  | none => exact readB_okv hc hS (b := x.b) (i := x.off) h
  | some n =>
    obtain ⟨l, hl, h⟩ := obind_inv h
    cases h
    obtain ⟨xs, hxs⟩ := okl_of (cellsFrom_okv hc hS hl)
    exact ⟨_, den_agg_of hxs⟩
theorem load_out (hc : CxOK X K w0) (hS : StRel X K w0 E st w) {t : TypeId} {x : Operand} {g : Option Nat} {b : BO} (hb : cO x = some b) (hg : aggN X.cx.und X.cx.size t = some g) (ho : o.op = .load t x) (h : (xLoad X.cx g st k (ev tm b)).holds Θ E.va R) : MovOut X K w0 Θ R E o tm (.load g b) st w k := by
  obtain ⟨a, ha, h⟩ := vbind_inv h
  obtain ⟨v, hv, h⟩ := outK_inv h
  refine ⟨v, st, E, h, .refl _, hS, .refl _ _, loadVar_okv hc hS hv, fun _ _ h => h, .refl E, fun n' a' e x hx => (by cases e; rw [ha] at hx; cases hx; exact hv), fun E'' st'' w'' ρ hE _ hS'' hR hl => ?_⟩
  have hv' := hl g b rfl a ha
  have hx := hR.get (x := x) (by rw [ho]; simp [Op.operands]) hb
  rw [asPtr_inv ha] at hx
  obtain ⟨ad, had, e0⟩ := den_ptr hx
  obtain ⟨y, hy, hrun⟩ := loadVar_sound hc hS'' hg hv' had
  exact ⟨E'', y, w'', .refl _, rfl, by simp [execOp, ho, e0, Instr.loadAt, Instr.sureAddr, hrun], hS'', hy, fun _ _ h => h⟩

/-! ### New blocks -/
noncomputable def St.blk (st : St) (b : Blk) : St := ⟨st.n + 1, st.nc, st.heap.set st.n (some b), st.live, st.x⟩
theorem newBlk_eq (st : St) (sz : Nat) (t : Tr AV) (z : List AV) (zn : Nat) (F : Nat → St → VC) (cv es : Nat) : newBlk st sz t z zn F cv es = F st.n (st.blk ⟨sz, t, z, zn, st.n, cv, es⟩) := by
  obtain ⟨n, nc, h, l, x⟩ := st
  show h.setK n _ _ = _
  rw [Tr.setK_eq, natK_eq]; rfl
theorem newCells_eq (st : St) (cs : List AV) (F : Nat → St → VC) (cv es : Nat) : newCells st cs F cv es = F st.n (st.blk ⟨lenL cs, puts cs 0 .nil, [], 0, st.n, cv, es⟩) := by
  unfold newCells
  rw [putsK_eq, natK_eq, newBlk_eq]
theorem blk_n (hS : StRel X K w0 E st w) (p : Option (Nat × Nat)) : (E.push p).m[st.n]? = some p := by rw [← hS.n_eq]; exact push_new E p
theorem hp_blk (hS : StRel X K w0 E st w) (b : Blk) (p : Option (Nat × Nat)) : HP E (E.push p) st (st.blk b) :=
  hp_push E p hS.n_eq (fun k hk => by show (st.heap.set st.n (some b)).get k = _; rw [Tr.get_set_other _ _ (by omega)]) (fun _ _ => rfl) rfl
/-- Something new, now or late. -/
theorem new_out {bo : BOp} (hS : StRel X K w0 E st w) {b : Blk} {v : AV} (hfam : b.fam = st.n) (hcv : b.cv = 0) (hok : ∀ i u, b.cell i = some u → okv (E.push none) u) (hv : okv (E.push none) v) (hh : (k v (st.blk b)).holds Θ E.va R)
    (hrun : ∀ E'' w'' ρ, E.Le E'' → Rd E'' tm ρ o.op.operands.toList → E''.m[st.n]? = some none → ∃ ys el y, (execOp ρ o).run X.P w'' = .ok (.value y) (w''.alloc (.cells ys el)) ∧ BlkRel (E''.set st.n (w''.heap.size, 0)) b 0 ys (0, 0) ∧ v.den (E''.set st.n (w''.heap.size, 0)) = some y)  (hbo : ∀ n a, bo ≠ .load n a := by intro _ _ hh; cases hh) :
    MovOut X K w0 Θ R E o tm bo st w k := by
  have hS' : StRel X K w0 (E.push none) (st.blk b) w := hS.newCells hfam (.inl ⟨rfl, rfl, hcv, hok⟩)
  refine ⟨v, st.blk b, E.push none, hh, E.le_push none, hS', hp_blk hS b none, hv, fun j bj hj => ?_, .push E, .of hbo, fun E'' st'' w'' ρ hE hH hS'' hR _ => ?_⟩
  · have := (hS.lt j bj hj).1
    show (st.heap.set st.n (some b)).get j = _
    rw [Tr.get_set_other _ _ (by omega)]; exact hj
  · have hlen : (E.push none).m.length = st.n + 1 := by simp [Env.push, hS.n_eq]
    obtain ⟨h1, h2, h3⟩ := hH st.n (by rw [hS.n_eq]; exact Nat.le_refl _) (by omega)
    obtain ⟨ys, el, y, g1, g2, g3⟩ := hrun E'' w'' ρ ((E.le_push none).trans hE) hR h1
    refine ⟨E''.set st.n (w''.heap.size, 0), y, _, Env.le_set h1, rfl, g1, hS''.fill h1 _ (fun b' hb' => ?_) (fun o' ho' => ?_), g3, fun j hj hn => ?_⟩
    · rw [h2] at hb'
      have : (st.heap.set st.n (some b)).get st.n = some b' := hb'
      rw [Tr.get_set_same] at this
      cases this
      exact ⟨hfam, ys, el, rfl, g2⟩
    · rw [h3] at ho'
      have : st.x.objs.get st.n = some o' := ho'
      exact absurd (hS.objs _ _ this).1 (Nat.lt_irrefl _)
    · rw [set_other]; exact hn
      rw [hlen, hS.n_eq] at hj; omega
theorem set_new {E : Env} {k : Nat} {p : Nat × Nat} (h : E.m[k]? = some none) : (E.set k p).m[k]? = some (some p) := set_same (List.getElem?_eq_some_iff.1 h).1
theorem ptr_okv (hS : StRel X K w0 E st w) : okv (E.push none) (.ptr (some ⟨.r st.n, 0⟩)) := by
  refine ⟨.pointer (some ⟨0, 0 + 0, none⟩), den_ptr_of (aden_r_of (p := (0, 0)) ?_)⟩
  rw [fill_get, blk_n hS]; rfl
theorem ptr_den {E'' : Env} {j id : Nat} (h : E''.m[j]? = some none) : (AV.ptr (some ⟨.r j, 0⟩)).den (E''.set j (id, 0)) = some (.pointer (some ⟨id, 0, none⟩)) := by
  rw [den_ptr_of (aden_r_of (set_new h))]; rfl
theorem slice_okv (hS : StRel X K w0 E st w) {l c : Nat} (h : l ≤ c) : okv (E.push none) (.slice (some ⟨.r st.n, 0⟩) l (.k c)) := by
  have : aden (E.push none).fill ⟨.r st.n, 0⟩ = some ⟨0, 0 + 0, none⟩ := aden_r_of (p := (0, 0)) (by rw [fill_get, blk_n hS]; rfl)
  exact ⟨.slice (some ⟨0, 0 + 0, none⟩) l c, by simp only [AV.den, this, cden]; rw [if_pos h]⟩
theorem slice_den {E'' : Env} {j id l c : Nat} (h : E''.m[j]? = some none) (hle : l ≤ c) : (AV.slice (some ⟨.r j, 0⟩) l (.k c)).den (E''.set j (id, 0)) = some (.slice (some ⟨id, 0, none⟩) l c) := by
  have : aden (E''.set j (id, 0)) ⟨.r j, 0⟩ = some ⟨id, 0 + 0, none⟩ := aden_r_of (set_new h)
  simp only [AV.den, this, cden]; rw [if_pos hle]
/-- A block of cells that are listed. -/
theorem blkRel_list {E : Env} {cs : List AV} {ys : Array Value} {n cv es : Nat} {xs : List Value} (hx : denL E cs = some xs) (hy : ∀ (i : Nat) (y : Value), xs[i]? = some y → ys[i]? = some y) (hcap : ∀ i, cv = i + 1 → ∃ c, E.caps[i]? = some c ∧ c * es ≤ ys.size ∧ xs.length ≤ c * es) : BlkRel E ⟨lenL cs, puts cs 0 .nil, [], 0, n, cv, es⟩ 0 ys (0, 0) := by
  have hl := denL_length hx
  have hcell : ∀ i v, (⟨lenL cs, puts cs 0 .nil, [], 0, n, cv, es⟩ : Blk).cell i = some v → cs[i]? = some v := by
    intro i v hv
    rw [cell_eq] at hv
    simp only [puts_get] at hv
    by_cases c : 0 ≤ i ∧ i < 0 + cs.length
    · rw [if_pos c, Nat.sub_zero] at hv
      cases hci : cs[i]? with
      | none => rw [List.getElem?_eq_none_iff] at hci; omega
      | some u => rw [hci] at hv; exact hv
    · rw [if_neg c] at hv
      simp at hv
  refine ⟨.inl rfl, ?_, fun i v hv => ?_, fun i hi => ?_, fun i v hv => ?_⟩
  · show lenL cs + 0 ≤ ys.size
    rw [lenL_eq, ← hl, Nat.add_zero]
    rcases Nat.eq_zero_or_pos xs.length with e | e
    · omega
    · have h1 : xs.length - 1 < xs.length := by omega
      have := (Array.getElem?_eq_some_iff.1 (hy _ _ (List.getElem?_eq_getElem h1))).1
      omega
  · have hv' : (puts cs 0 .nil).get i = some v := hv
    rw [puts_get] at hv'
    show i < lenL cs
    rw [lenL_eq]
    split at hv'
    · omega
    · simp at hv'
  · obtain ⟨c, h1, h2, h3⟩ := hcap i hi
    exact ⟨c, h1, by rw [Nat.add_zero]; exact h2, by show lenL cs ≤ _; rw [lenL_eq, ← hl]; exact h3⟩
  · obtain ⟨y, h1, h2⟩ := denL_get hx (hcell i v hv)
    exact ⟨y, h1, hy i y h2⟩
theorem list_okv {cs : List AV} {n cv es : Nat} (h : ∀ v ∈ cs, okv E v) : ∀ i u, (⟨lenL cs, puts cs 0 .nil, [], 0, n, cv, es⟩ : Blk).cell i = some u → okv E u := by
  intro i u hu
  rw [cell_eq] at hu
  simp only [puts_get] at hu
  by_cases c : 0 ≤ i ∧ i < 0 + cs.length
  · rw [if_pos c, Nat.sub_zero] at hu
    cases hci : cs[i]? with
    | none => rw [List.getElem?_eq_none_iff] at hci; omega
    | some v => rw [hci] at hu; cases hu; exact h u (List.mem_of_getElem? hci)
  · rw [if_neg c] at hu
    simp at hu
/-- A block all of whose cells are first values. -/
theorem eqAV_eq {a b : AV} (h : eqAV a b = true) : a = b := by
  unfold eqAV at h
  split at h
  · rw [Bool.and_eq_true, beq_iff, decide_eq_true_eq] at h
    rw [kbeq_eq h.1, h.2]
  · rw [bbeq_eq, decide_eq_true_eq] at h; rw [h]
  · cases h
theorem allSame_mem {v : AV} : ∀ {l : List AV}, allSame v l = true → ∀ u ∈ l, u = v
  | [], _, u, hu => by cases hu
  | x :: l, h, u, hu => by
    obtain ⟨h1, h2⟩ : eqAV v x = true ∧ allSame v l = true := by
      change bif_ (eqAV v x) (allSame v l) false = true at h
      cases e : eqAV v x with
      | true => rw [e] at h; exact ⟨rfl, h⟩
      | false => rw [e] at h; cases h
    cases hu with
    | head => exact (eqAV_eq h1).symm
    | tail _ hu => exact allSame_mem h2 u hu
theorem uni_get {z : List AV} {i : Nat} {u : AV} (hz : 0 < z.length) (h : (uni z)[i % (uni z).length]? = some u) : z[i % z.length]? = some u := by
  cases z with
  | nil => simp at hz
  | cons v l =>
    simp only [uni] at h
    cases e : allSame v l with
    | false => rw [e] at h; exact h
    | true =>
      rw [e, bif_true] at h
      simp [Nat.mod_one] at h
      subst h
      have hlt : i % (v :: l).length < (v :: l).length := Nat.mod_lt _ hz
      rw [List.getElem?_eq_getElem hlt]
      congr 1
      have := List.getElem_mem hlt
      cases this' : (v :: l)[i % (v :: l).length] with
      | _ => 
        rw [this'] at this
        cases this with
        | head => rfl
        | tail _ hm => exact allSame_mem e _ hm
theorem uni_len (z : List AV) : (uni z).length = 0 ↔ z.length = 0 := by
  cases z with
  | nil => simp [uni]
  | cons v l =>
    simp only [uni]
    cases allSame v l <;> simp
theorem zcell {sz : Nat} {z : List AV} {n cv es : Nat} {i : Nat} {u : AV} (h : (⟨sz, .nil, uni z, lenL (uni z), n, cv, es⟩ : Blk).cell i = some u) : i < sz ∧ 0 < z.length ∧ z[i % z.length]? = some u := by
  rw [cell_eq] at h
  simp only [Tr.get_nil] at h
  split at h
  · rename_i hlt
    rw [lenL_eq] at h
    split at h
    · cases h
    · rename_i j hj
      have hz : 0 < z.length := by
        rcases Nat.eq_zero_or_pos z.length with e | e
        · rw [(uni_len z).2 e] at hj; cases hj
        · exact e
      rw [show j + 1 = (uni z).length from hj.symm] at h
      exact ⟨hlt, hz, uni_get hz h⟩
  · cases h
theorem zero_okv {sz : Nat} {z : List AV} {n cv es : Nat} {v : Value} (hz : ∀ E, denL E z = some v.cells.toList) : ∀ i u, (⟨sz, .nil, uni z, lenL (uni z), n, cv, es⟩ : Blk).cell i = some u → okv E u := by
  intro i u hu
  obtain ⟨_, _, h⟩ := zcell hu
  obtain ⟨y, hy, _⟩ := denL_get (hz E.fill) h
  exact ⟨y, hy⟩
theorem blkRel_zero {sz : Nat} {z : List AV} {n es : Nat} {v : Value} {ys : Array Value} (hz : ∀ E, denL E z = some v.cells.toList) (hroom : sz ≤ ys.size) (hy : ∀ i, i < sz → ys[i]? = v.cells[i % v.cells.size]?) : BlkRel E ⟨sz, .nil, uni z, lenL (uni z), n, 0, es⟩ 0 ys (0, 0) := by
  refine ⟨.inl rfl, hroom, fun i v hv => (by simp at hv), fun i hi => (by cases hi), fun i u hu => ?_⟩
  obtain ⟨h1, h2, h3⟩ := zcell hu
  obtain ⟨y, g1, g2⟩ := denL_get (hz E) h3
  refine ⟨y, g1, ?_⟩
  have hl := denL_length (hz E)
  rw [Nat.add_zero, hy i h1]
  simp at hl
  rw [hl]; simpa using g2

theorem alloc_out {bo : BOp} (hc : CxOK X K w0) (hS : StRel X K w0 E st w) {t : TypeId} {z : List AV} (hz : X.cx.zero.get t = some z) (ho : o.op = .alloc t) (h : (newBlk st (lenL z) .nil (uni z) (lenL (uni z)) (newPtr k)).holds Θ E.va R) (hbo : ∀ n a, bo ≠ .load n a := by intro _ _ hh; cases hh) : MovOut X K w0 Θ R E o tm bo st w k := by
  rw [newBlk_eq] at h
  obtain ⟨i, v, h1, h2, h3, h4, h5, h6⟩ := hc.zero t z hz
  have hl := denL_length (h5 E)
  refine new_out (hbo := hbo) (v := .ptr (some ⟨.r st.n, 0⟩)) hS rfl rfl (zero_okv h5) (ptr_okv hS) h fun E'' w'' ρ _ _ hn => ⟨v.cells, t, _, ?_, blkRel_zero h5 ?_ fun i hi => ?_, ptr_den hn⟩
  · simp [execOp, ho, Instr.alloc, zeroValue, typeInfo, h1, h2, newVar, newRow, Sem.run, program]
  · rw [lenL_eq, ← hl]; simp
  · rw [lenL_eq] at hi
    rw [Nat.mod_eq_of_lt]
    simp at hl; omega
theorem box_out {bo : BOp} (hS : StRel X K w0 E st w) (hO : Oks E tm) {t : TypeId} {x : Operand} {b : BO} (hb : cO x = some b) (ho : o.op = .box t x) (h : (vif (notDead (ev tm b)) (newCells st (ev tm b).cells (newPtr k))).holds Θ E.va R) (hbo : ∀ n a, bo ≠ .load n a := by intro _ _ hh; cases hh) : MovOut X K w0 Θ R E o tm bo st w k := by
  obtain ⟨hd, h⟩ := vif_inv h
  rw [newCells_eq] at h
  have hcells : ∀ u ∈ (ev tm b).cells, okv (E.push none) u := by
    obtain ⟨y, hy⟩ := (hO.ev hb).mono (E.le_push none)
    obtain ⟨xs, hxs, _⟩ := den_cells hd hy
    intro u hu
    obtain ⟨j, hj⟩ := List.getElem?_of_mem hu
    obtain ⟨y, h1, _⟩ := denL_get hxs hj
    exact ⟨y, h1⟩
  refine new_out (hbo := hbo) (v := .ptr (some ⟨.r st.n, 0⟩)) hS rfl rfl (list_okv hcells) (ptr_okv hS) h fun E'' w'' ρ _ hR hn => ?_
  have hx := hR.get (x := x) (by rw [ho]; simp [Op.operands]) hb
  obtain ⟨xs, hxs, hcs⟩ := den_cells hd (den_mono (E''.le_set (id := w''.heap.size) hn) _ hx)
  refine ⟨(ρ x).cells, t, _, ?_, blkRel_list hxs (fun i y hy => by rw [← hcs] at hy; simpa using hy) (fun i hi => (by cases hi)), ptr_den hn⟩
  simp [execOp, ho, Instr.box, newVar, newRow]
end
end Go.Sy
/-! Operations that may come late: all of them. -/
namespace Go.Sy
section
variable {X : Tabs} {K : Nat → Prop} {w0 : World} {E : Env} {st : St} {w : World} {Θ : Pred} {R : List Back} {tm : Tm} {k : Kt} {o : Oper}

theorem arr0 {α : Type} (f : Nat → α) : (Array.range 0).map f = #[] := by apply Array.ext'; simp [Array.toList_range]
theorem run_buildSlice0 {P : Program} (w : World) (t e : TypeId) (parts : Array (Nat × Value)) (cells : Array Value) (ie : TypeInfo) (hu : P.underlying t = some (.slice e)) (hie : P.info? e = some ie)
    (h : Instr.fill (fun i => some (i * ie.size, ie.size)) #[] parts.toList = some cells) :
    (Instr.buildSlice t 0 parts).run P w = .ok (.slice (some ⟨w.heap.size, 0, none⟩) 0 0) (w.alloc (.cells cells e)) := by
  have e0 : Array.map (fun _ => (default : Value)) (Array.range 0) = #[] := arr0 _
  simp [Instr.buildSlice, run_underlying hu, sizeOf, typeInfo, hie, newRow]
  rw [e0, h]
  simp
theorem run_buildSliceAny {P : Program} (w : World) (t e : TypeId) (len : Nat) (parts : Array (Nat × Value)) (cells : Array Value) (ie : TypeInfo) (z : Value) (hu : P.underlying t = some (.slice e)) (hie : P.info? e = some ie) (hz : ie.zero = some z) (hsmall : len * ie.size ≤ 65536) (hpos : 0 < ie.size)
    (h : Instr.fill (fun i => some (i * ie.size, ie.size)) ((Array.range (len * ie.size)).map (z.cells[· % z.cells.size]!)) parts.toList = some cells) :
    (Instr.buildSlice t len parts).run P w = .ok (.slice (some ⟨w.heap.size, 0, none⟩) len len) (w.alloc (.cells cells e)) := by
  rcases Nat.eq_zero_or_pos len with c | c
  · subst c
    refine run_buildSlice0 w t e parts cells ie hu hie ?_
    rw [Nat.zero_mul, arr0] at h
    exact h
  · have := Nat.mul_pos c hpos
    exact run_buildSlice w t e len parts cells ie z hu hie hz (by omega) (by omega) h
theorem rep_made (z : List Value) : ∀ n : Nat, (List.replicate n z).flatten = (madeCells z.toArray (n * z.length)).toList := by
  intro n
  apply List.ext_getElem?
  intro i
  simp only [madeCells, Array.toList_map, Array.toList_range, List.getElem?_map]
  by_cases c : i < n * z.length
  · rw [List.getElem?_range c]
    simp only [Option.map_some]
    induction n generalizing i with
    | zero => simp at c
    | succ n ih =>
      rw [List.replicate_succ, List.flatten_cons]
      by_cases c2 : i < z.length
      · rw [List.getElem?_append_left c2, Nat.mod_eq_of_lt (by simpa using c2)]
        simp [c2, getElem!_pos]
      · rw [List.getElem?_append_right (by omega)]
        have hm : i % z.toArray.size = (i - z.length) % z.toArray.size := by simp; rw [Nat.mod_eq_sub_mod (by omega)]
        rw [hm]
        exact ih (i - z.length) (by rw [Nat.succ_mul] at c; omega)
  · rw [List.getElem?_eq_none (by simp [List.length_flatten]; omega), List.getElem?_eq_none (by simp; omega)]
    rfl
theorem bslice_out {bo : BOp} {cxr : Rec} (hc : CxOK X K w0) (hS : StRel X K w0 E st w) (hO : Oks E tm) {t : TypeId} {len : Nat} {parts : Array (Nat × Operand)} {d : TypeDesc} {b : BOp} (hd : X.cx.und.get t = some d) (hb : cBslice X.cx.size X.cx.zero len parts.toList d = some b) (ho : o.op = .buildSlice t len parts)
    (h : (xop b X.cx cxr tm st k).holds Θ E.va R) (hbo : ∀ n a, bo ≠ .load n a := by intro _ _ hh; cases hh) : MovOut X K w0 Θ R E o tm bo st w k := by
  have hu := hc.und t d hd
  have hops : o.op.operands.toList = parts.toList.map (·.2) := by rw [ho]; rfl
  unfold cBslice at hb
  split at hb
  · rename_i e
    obtain ⟨n, hn, hb⟩ := obind_inv hb
    obtain ⟨z, hz, hb⟩ := obind_inv hb
    obtain ⟨ps, hps, hb⟩ := obind_inv hb
    obtain ⟨hcond, hb⟩ := bif_some hb
    cases hb
    simp only [Bool.and_eq_true, ble_iff, blt_iff, decide_eq_true_eq, natMul] at hcond
    obtain ⟨l, hl, h⟩ := vbind_inv h
    rw [newCells_eq] at h
    obtain ⟨ie, hie, hne⟩ := hc.size _ _ hn
    obtain ⟨it, zv, h1, h2, h3, h4, h5, _⟩ := hc.zero e z hz
    rw [hie] at h1; cases h1
    have hzl := denL_length (h5 E)
    have hzs : zv.cells.size = n := by rw [← hne, h3, ← hzl]; simp
    have mk : ∀ (E : Env) (ρ : Operand → Value), Rd E tm ρ o.op.operands.toList → ∃ xs', denL E l = some xs' ∧ Instr.fill (fun i => some (i * ie.size, ie.size)) ((Array.range (len * ie.size)).map (zv.cells[· % zv.cells.size]!)) (parts.map fun (i, x) => (i, ρ x)).toList = some xs'.toArray := by
      intro E ρ hR
      rw [hops] at hR
      have hrep := denL_rep (h5 E) len
      rw [rep_made zv.cells.toList len] at hrep
      obtain ⟨xs', e1, e2⟩ := build_sound (place' := fun i => some (i * ie.size, ie.size)) (fun i p hp => by rw [hne]; exact hp) hps hl hrep hR
      refine ⟨xs', e1, ?_⟩
      have heq : (Array.range (len * ie.size)).map (zv.cells[· % zv.cells.size]!) = (madeCells zv.cells.toList.toArray (len * zv.cells.toList.length)).toList.toArray := by
        apply Array.ext'; simp [madeCells, hzs, hne]
      rw [heq, Array.toList_map]
      exact e2
    have hoks : ∀ u ∈ l, okv (E.push none) u := by
      obtain ⟨ρ, hR⟩ := hO.rd o.op.operands.toList
      obtain ⟨xs', e1, _⟩ := mk E.fill ρ hR
      intro u hu
      obtain ⟨j, hj⟩ := List.getElem?_of_mem hu
      obtain ⟨y, g1, _⟩ := denL_get e1 hj
      exact okv.mono (E.le_push none) ⟨y, g1⟩
    refine new_out (hbo := hbo) (v := .slice (some ⟨.r st.n, 0⟩) len (.k len)) hS rfl rfl (list_okv hoks) (slice_okv hS (Nat.le_refl _)) h fun E'' w'' ρ _ hR hnn => ?_
    obtain ⟨xs', e1, e2⟩ := mk E'' ρ hR
    refine ⟨xs'.toArray, e, _, ?_, blkRel_list (denL_mono (E''.le_set (id := w''.heap.size) hnn) _ e1) (fun i y hy => by simpa using hy) (fun i hi => (by cases hi)), slice_den hnn (Nat.le_refl _)⟩
    have hrun := run_buildSliceAny (P := X.P) w'' t e len (parts.map fun (i, x) => (i, ρ x)) xs'.toArray ie zv hu hie h2 (by rw [hne]; exact hcond.1) (by rw [hne]; exact hcond.2) e2
    have hex : (execOp ρ o).run X.P w'' = ((Instr.buildSlice t len (parts.map fun (i, x) => (i, ρ x))) >>= fun v => pure (Next.value v) : Sem Next).run X.P w'' := by simp only [execOp, ho]
    rw [hex, Sem.run_bind, hrun]; rfl
  · cases hb
theorem mksl_out {bo : BOp} (hc : CxOK X K w0) (hS : StRel X K w0 E st w) (hO : Oks E tm) {t e : TypeId} {n : Nat} {z : List AV} {l c : Operand} {bl bc : BO} (hd : X.cx.und.get t = some (.slice e)) (hn : X.cx.size.get e = some n) (hz : X.cx.zero.get e = some z) (hl : cO l = some bl) (hcc : cO c = some bc) (hpos : 0 < n) (ho : o.op = .makeSlice t l c)
    (h : (xMksl n (lenL (uni z)) (uni z) st k (ev tm bl) (ev tm bc)).holds Θ E.va R) (hbo : ∀ n a, bo ≠ .load n a := by intro _ _ hh; cases hh) : MovOut X K w0 Θ R E o tm bo st w k := by
  obtain ⟨lv, hlv, h⟩ := vbind_inv h
  obtain ⟨cv, hcv, h⟩ := vbind_inv h
  obtain ⟨hcond, h⟩ := vif_inv h
  simp only [Bool.and_eq_true, ble_iff, decide_eq_true_eq] at hcond
  rw [natK_eq, newBlk_eq] at h
  obtain ⟨kl, e1, e2, _⟩ := natOf_inv hlv (hO.ev hl)
  obtain ⟨kc, e3, e4, _⟩ := natOf_inv hcv (hO.ev hcc)
  obtain ⟨ie, hie, hne⟩ := hc.size _ _ hn
  obtain ⟨it, zv, h1, h2, h3, h4, h5, _⟩ := hc.zero e z hz
  rw [hie] at h1; cases h1
  have hzl := denL_length (h5 E)
  have hzs : zv.cells.size = n := by rw [← hne, h3, ← hzl]; simp
  refine new_out (hbo := hbo) (v := .slice (some ⟨.r st.n, 0⟩) lv (.k cv)) hS rfl rfl (zero_okv h5) (slice_okv hS hcond.1) h fun E'' w'' ρ _ hR hnn => ?_
  have hL := hR.get (x := l) (by rw [ho]; simp [Op.operands]) hl
  have hC := hR.get (x := c) (by rw [ho]; simp [Op.operands]) hcc
  rw [e1] at hL
  rw [e3] at hC
  have hL := (den_int hL).2
  have hC := (den_int hC).2
  rw [e2] at hL
  rw [e4] at hC
  have hrun := run_make (P := X.P) w'' t e ie zv (hc.und t _ hd) hie h2 kl kc lv cv (by omega) (by omega) (by
    have : ie.bytes * cv ≤ 1048576 * 16777216 := Nat.mul_le_mul h4 hcond.2
    have : ((ie.bytes * cv : Nat) : Int) ≤ 281474976710656 := by omega
    simpa using this) (by omega)
  simp only [Int.toNat_natCast] at hrun
  refine ⟨madeCells zv.cells (cv * ie.size), e, _, by simp [execOp, ho, hL, hC, hrun], blkRel_zero h5 ?_ fun i hi => ?_, slice_den hnn hcond.1⟩
  · simp [madeCells, hne]
  · have hi : i < cv * n := hi
    rw [hne]
    simp only [madeCells, Array.getElem?_map]
    have hlt : i % zv.cells.size < zv.cells.size := Nat.mod_lt _ (by omega)
    rw [Array.getElem?_eq_getElem hlt]
    simp [hi, getElem!_pos, hlt]
theorem mkmap_out {bo : BOp} (hc : CxOK X K w0) (hS : StRel X K w0 E st w) {t : TypeId} {r : Option Operand} {d : TypeDesc} {p : TypeId × TypeId} (hd : X.cx.und.get t = some d) (hp : mapKE d = some p) (hr : hintOK r = true) {rb : Option BO} (hrb : cOo r = some rb) (ho : o.op = .makeMap t r)
    (h : (newO st (.map [] 0) fun r st => k (.map (some r)) st).holds Θ E.va R) (hbo : ∀ n a, bo ≠ .load n a := by intro _ _ hh; cases hh) : MovOut X K w0 Θ R E o tm bo st w k := by
  rw [newO_eq] at h
  refine ⟨.map (some st.n), st.obj (.map [] 0), E.push none, h, E.le_push none, hS.newObj _, hp_obj hS _, ⟨.map (some 0), ?_⟩, fun _ _ h => h, .push E, .of hbo, fun E'' st'' w'' ρ hE hH hS'' hR _ => ?_⟩
  · have : (E.push none).fill.m[st.n]? = some (some (0, 0)) := by rw [fill_get, blk_n hS]; rfl
    simp [AV.den, this]
  · have hlen : (E.push none).m.length = st.n + 1 := by simp [Env.push, hS.n_eq]
    obtain ⟨h1, h2, h3⟩ := hH st.n (by rw [hS.n_eq]; exact Nat.le_refl _) (by omega)
    refine ⟨E''.set st.n (w''.heap.size, 0), .map (some w''.heap.size), w''.alloc (.map #[] 0), Env.le_set h1, rfl, ?_, hS''.fill h1 _ (fun b' hb' => ?_) (fun o' ho' => ?_), ?_, fun j hj hn => ?_⟩
    · have hk : ∃ a b, d = .map a b := by cases d <;> first | (cases hp; done) | exact ⟨_, _, rfl⟩
      obtain ⟨a, b, rfl⟩ := hk
      have hu := hc.und t _ hd
      cases r with
      | none => simp [execOp, ho, Instr.makeMap]
      | some x =>
        have : ∃ kd n, x = .const (.int kd n) := by
          cases x <;> simp only [hintOK] at hr <;> try (cases hr; done)
          rename_i v
          cases v <;> simp at hr
          exact ⟨_, _, rfl⟩
        obtain ⟨kd, n, rfl⟩ := this
        have hv : ρ (.const (.int kd n)) = .int kd n := by
          obtain ⟨c, hc1, _⟩ := obind_inv hrb
          obtain ⟨v, hv, hc2⟩ := obind_inv hc1
          cases hc2
          have h0 := hR.get (x := .const (.int kd n)) (by rw [ho]; simp [Op.operands]) hc1
          have h2 := den_ofVal (E := E'') hv
          have h3 : (ev tm (.c v)).den E'' = some (.int kd n) := h2
          rw [h3] at h0; exact (Option.some.inj h0).symm
        simp [execOp, ho, Instr.makeMap, run_underlying hu, hv, asInt, asIntOf]
    · rw [h2] at hb'
      have : st.heap.get st.n = some b' := hb'
      exact absurd (hS.lt _ _ this).1 (Nat.lt_irrefl _)
    · rw [h3] at ho'
      have : (st.x.objs.set st.n (some (.map [] 0))).get st.n = some o' := ho'
      rw [Tr.get_set_same] at this
      cases this
      exact ⟨rfl, trivial⟩
    · simp [AV.den, set_new h1]
    · rw [set_other]; exact hn
      rw [hlen, hS.n_eq] at hj; omega
end
end Go.Sy
