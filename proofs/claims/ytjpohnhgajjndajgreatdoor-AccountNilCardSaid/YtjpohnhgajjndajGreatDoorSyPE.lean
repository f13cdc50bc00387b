import Derived.Test.YtjpohnhgajjndajGreatDoorSyP
/-! Operators. -/
namespace Go.Sy
section
variable {X : Tabs} {K : Nat → Prop} {w0 : World} {E : Env} {st : St} {w : World} {Θ : Pred} {R : List Back} {tm : Tm} {k : Kt} {o : Oper}

/-- Whenever it comes, and whatever it is that x and y stand for. -/
def Bin2 (P : Program) (E : Env) (v p q : AV) (run : Value → Value → Sem Value) : Prop :=
  ∀ E' x y, E.Le E' → p.den E' = some x → q.den E' = some y → ∃ z, v.den E' = some z ∧ ∀ w, (run x y).run P w = .ok z w
def Bin2Out (P : Program) (Θ : Pred) (R : List Back) (E : Env) (st : St) (k : Kt) (p q : AV) (run : Value → Value → Sem Value) : Prop :=
  ∃ v f, (k v (st.withF f)).holds Θ E.va R ∧ FOK E.va f ∧ Bin2 P E v p q run
theorem Bin2Out.now {P : Program} {p q v : AV} {run : Value → Value → Sem Value} (hk : (k v st).holds Θ E.va R) (hf : FOK E.va st.facts) (h : Bin2 P E v p q run) : Bin2Out P Θ R E st k p q run :=
  ⟨v, st.facts, by rw [withF_self]; exact hk, hf, h⟩

theorem zcm_some {op : BinOp} (h : isCmp op = true) (n m : Int) : ∃ r, zcm op n m = some r := by cases op <;> first | (cases h; done) | exact ⟨_, rfl⟩
theorem zar_some {op : BinOp} (h : isCmp op = false) {k : IntKind} {n m : Int} (hd : isDiv op = true → m ≠ 0) (hs : isShift op = true → 0 ≤ m) : ∃ c, zar op k n m = some c := by
  cases hz : zar op k n m with
  | some c => exact ⟨c, rfl⟩
  | none =>
    cases op <;> first | (cases h; done) | (cases hz; done) | skip
    · simp only [zar] at hz; rw [if_neg (hd rfl)] at hz; cases hz
    · simp only [zar] at hz; rw [if_neg (hd rfl)] at hz; cases hz
    · have := hs rfl; simp only [zar] at hz; rw [if_neg (by omega)] at hz; cases hz
    · have := hs rfl; simp only [zar] at hz; rw [if_neg (by omega)] at hz; cases hz
theorem bin_ev {ρ : Va} {op : BinOp} {k : IntKind} {x y : T} {n m c : Int} (hx : x.ev ρ = some (.i n)) (hy : y.ev ρ = some (.i m)) (h : zar op k n m = some c) : (T.bin op k x y).ev ρ = some (.i c) := by
  simp only [T.ev, hx, hy, h]; rfl
theorem guard_int (P : Program) (op : BinOp) (t : TypeId) (xo yo : Operand) (j k : IntKind) (n m : Int) (w : World) : (eqGuard op t xo yo (.int j n) (.int k m)).run P w = .ok () w := by
  unfold eqGuard
  cases op <;> simp
/-- The operator, its guard ahead of it. -/
def opRun (op : BinOp) (t : TypeId) (xo yo : Operand) (x y : Value) : Sem Value := do eqGuard op t xo yo x y; Go.binOp op t x y

theorem binT_inv {P : Program} {op : BinOp} {j kd : IntKind} {x y : T} {p q : AV} (h : (binT op j x kd y st k).holds Θ E.va R) (hf : FOK E.va st.facts) (hp : toT p = some (j, x)) (hq : toT q = some (kd, y)) (hop : okv E p) (hoq : okv E q) (t : TypeId) (xo yo : Operand) :
    Bin2Out P Θ R E st k p q (opRun op t xo yo) := by
  obtain ⟨n, hx, hxw, hxa⟩ := toT_inv hp hop
  obtain ⟨m, hy, hyw, hya⟩ := toT_inv hq hoq
  obtain ⟨hk, h⟩ := vif_inv h
  have hk : isShift op = true ∨ j = kd := by
    rcases Bool.or_eq_true_iff.1 hk with h1 | h1
    · exact .inl h1
    · exact .inr (kbeq_eq h1)
  have cmpcase : ∀ {v : AV} {r : Bool}, zcm op n m = some r → j = kd → (∀ E', E.Le E' → v.den E' = some (.bool r)) → Bin2 P E v p q (opRun op t xo yo) := by
    intro v r hr hjk hv E' x' y' hE hx' hy'
    subst hjk
    rw [hxa E' x' hE hx', hya E' y' hE hy']
    exact ⟨_, hv E' hE, fun w => by simp only [opRun, Sem.run_bind, guard_int, Result.andThen_ok]; exact zcm_run hr t w⟩
  have arcase : ∀ {c : Int}, zar op j n m = some c → Bin2 P E (.sym j (.bin op j x y)) p q (opRun op t xo yo) := by
    intro c hc E' x' y' hE hx' hy'
    rw [hxa E' x' hE hx', hya E' y' hE hy']
    exact ⟨_, den_sym_of (bin_ev (ev_mono hE.va hx) (ev_mono hE.va hy) hc) (zar_wf hc hxw), fun w => by simp only [opRun, Sem.run_bind, guard_int, Result.andThen_ok]; exact zar_run hc hk t w⟩
  rcases bif_holds h with ⟨hcmp, h⟩ | ⟨hcmp, h⟩
  · obtain ⟨r, hr⟩ := zcm_some hcmp n m
    have hjk : j = kd := hk.resolve_left (by cases op <;> first | (cases hcmp; done) | decide)
    have hev := mkCmp_ev (op := op) hx hy
    rw [hr] at hev
    cases hd : dec st.facts (mkCmp op x y) with
    | none =>
      rw [hd] at h
      exact .now h hf (cmpcase hr hjk fun E' hE => den_cnd_of (ev_mono hE.va hev))
    | some b =>
      rw [hd] at h
      have := dec_sound hf hd hev
      subst this
      exact .now h hf (cmpcase hr hjk fun E' _ => rfl)
  · rcases bif_holds h with ⟨hdiv, h⟩ | ⟨hdiv, h⟩
    · obtain ⟨h1, f, hf', h⟩ := needK_inv h hf (r := decide (m ≠ 0)) (by rw [cmp_ev hy rfl]; rfl)
      obtain ⟨c, hc⟩ := zar_some hcmp (k := j) (n := n) (m := m) (fun _ => by simpa using h1) (fun hs => by cases op <;> first | (cases hs; done) | (cases hdiv; done))
      exact ⟨_, f, h, hf', arcase hc⟩
    · rcases bif_holds h with ⟨hsh, h⟩ | ⟨hsh, h⟩
      · obtain ⟨h1, f, hf', h⟩ := needK_inv h hf (r := decide (0 ≤ m)) (by rw [cmp_ev hy rfl]; rfl)
        obtain ⟨c, hc⟩ := zar_some hcmp (k := j) (n := n) (m := m) (fun hd => by rw [hdiv] at hd; cases hd) (fun _ => by simpa using h1)
        exact ⟨_, f, h, hf', arcase hc⟩
      · obtain ⟨c, hc⟩ := zar_some hcmp (k := j) (n := n) (m := m) (fun hd => by rw [hdiv] at hd; cases hd) (fun hs => by rw [hsh] at hs; cases hs)
        exact .now h hf (arcase hc)

theorem binU_den {P : Program} {op : BinOp} {j kd : IntKind} {a b : Nat} {v : AV} (h : binU op j a b = some v) (hk : isShift op = true ∨ j = kd) (ha : a < modOf j) (hb : b < modOf kd) (hs : isShift op = true → sgn kd b = (b : Int)) (t : TypeId) (xo yo : Operand) :
    Bin2 P E v (.int j a) (.int kd b) (opRun op t xo yo) := by
  intro E' x y _ hx hy
  rw [(den_int hx).2, (den_int hy).2]
  unfold binU at h
  cases hc : isCmp op with
  | true =>
    rw [hc, bif_true] at h
    obtain ⟨r, hr, h⟩ := obind_inv h
    cases h
    obtain rfl := hk.resolve_left (by cases op <;> first | (cases hc; done) | decide)
    exact ⟨_, rfl, fun w => by simp only [opRun, Sem.run_bind, guard_int, Result.andThen_ok]; exact zcm_run (cmU_zcm hr ha hb) t w⟩
  | false =>
    rw [hc, bif_false] at h
    obtain ⟨c, hr, h⟩ := obind_inv h
    cases h
    obtain ⟨h1, h2⟩ := arU_zar (y := sgn kd b) hr ha (fun hns => by
      obtain rfl := hk.resolve_left (by rw [hns]; decide)
      exact ⟨hb, rfl⟩) hs
    exact ⟨_, den_int_of h1, fun w => by simp only [opRun, Sem.run_bind, guard_int, Result.andThen_ok]; exact zar_run h2 hk t w⟩

theorem binI_inv {P : Program} {op : BinOp} {j : IntKind} {a : Nat} {q : AV} (h : (binI op j a st k q).holds Θ E.va R) (hf : FOK E.va st.facts) (hop : okv E (.int j a)) (hoq : okv E q) (t : TypeId) (xo yo : Operand) :
    Bin2Out P Θ R E st k (.int j a) q (opRun op t xo yo) := by
  unfold binI at h
  split at h
  · rename_i kd b
    obtain ⟨x, hx⟩ := hop
    have ha := (den_int hx).1
    obtain ⟨y, hy⟩ := id hoq
    have hb := (den_int hy).1
    obtain ⟨hk, h⟩ := vif_inv h
    have hk : isShift op = true ∨ j = kd := by
      rcases Bool.or_eq_true_iff.1 hk with h1 | h1
      · exact .inl h1
      · exact .inr (kbeq_eq h1)
    rcases bif_holds h with ⟨hs, h⟩ | ⟨hs, h⟩
    · obtain ⟨b', hb', h2⟩ := vbind_inv h
      obtain ⟨kd', e1, e2, _⟩ := natOf_inv hb' hoq
      cases e1
      obtain ⟨v, hv, h3⟩ := outK_inv h2
      exact .now h3 hf (binU_den hv hk ha hb (fun _ => e2) t xo yo)
    · obtain ⟨v, hv, h⟩ := outK_inv h
      exact .now h hf (binU_den hv hk ha hb (fun hs' => by rw [hs] at hs'; cases hs') t xo yo)
  · exact binT_inv h hf rfl rfl hop hoq t xo yo
  · exact h.elim
theorem binS_inv {P : Program} {op : BinOp} {j : IntKind} {x : T} {q : AV} (h : (binS op j x st k q).holds Θ E.va R) (hf : FOK E.va st.facts) (hop : okv E (.sym j x)) (hoq : okv E q) (t : TypeId) (xo yo : Operand) :
    Bin2Out P Θ R E st k (.sym j x) q (opRun op t xo yo) := by
  unfold binS at h
  split at h
  · exact binT_inv h hf rfl rfl hop hoq t xo yo
  · exact binT_inv h hf rfl rfl hop hoq t xo yo
  · exact h.elim

/-! ### The same or not -/
theorem isNo_eq {α : Type} (o : Option α) : isNo o = o.isNone := by cases o <;> rfl
theorem den_ptr' {x : Option AAddr} {y : Value} (h : (AV.ptr x).den E = some y) : ∃ ad, y = .pointer ad ∧ ad.isNone = x.isNone := by
  cases x with
  | none => simp only [AV.den, Option.some.injEq] at h; exact ⟨none, h.symm, rfl⟩
  | some x => obtain ⟨ad, _, h2⟩ := den_ptr h; exact ⟨some ad, h2, rfl⟩
theorem den_slice_inv {x : Option AAddr} {n : Nat} {c : Cap} {y : Value} (h : (AV.slice x n c).den E = some y) :
    (x = none ∧ n = 0 ∧ c = .k 0 ∧ y = .slice none 0 0) ∨ ∃ p ad cp, x = some p ∧ aden E p = some ad ∧ cden E c = some cp ∧ n ≤ cp ∧ y = .slice (some ad) n cp := by
  cases x with
  | none =>
    cases c with
    | k c =>
      simp only [AV.den] at h
      split at h
      · rename_i e; cases h; exact .inl ⟨rfl, e.1, by rw [e.2], rfl⟩
      · cases h
    | u _ _ => cases h
    | t _ => cases h
  | some p =>
    simp only [AV.den] at h
    split at h
    · rename_i ad cp h1 h2
      split at h
      · rename_i h3; cases h; exact .inr ⟨p, ad, cp, rfl, h1, h2, h3, rfl⟩
      · cases h
    · cases h
theorem den_slice' {x : Option AAddr} {n : Nat} {c : Cap} {y : Value} (h : (AV.slice x n c).den E = some y) : ∃ ad cp, y = .slice ad n cp ∧ ad.isNone = x.isNone := by
  rcases den_slice_inv h with ⟨rfl, rfl, _, rfl⟩ | ⟨p, ad, cp, rfl, _, _, _, rfl⟩
  · exact ⟨none, _, rfl, rfl⟩
  · exact ⟨some ad, _, rfl, rfl⟩
theorem den_sl0 {p : AAddr} {i n d : Nat} {y : Value} (h : (AV.sl0 p i n d).den E = some y) : ∃ x c, aden E p = some x ∧ E.caps[i]? = some c ∧ n ≤ c ∧ y = .slice (some (if c = n then x else x.add d)) 0 (c - n) := by
  simp only [AV.den] at h
  split at h
  · rename_i x c h1 h2
    split at h
    · rename_i h3; cases h; exact ⟨x, c, h1, h2, h3, rfl⟩
    · cases h
  · cases h
theorem den_map' {x : Option Nat} {y : Value} (h : (AV.map x).den E = some y) : (x = none ∧ y = .map none) ∨ ∃ r id, x = some r ∧ E.m[r]? = some (some (id, 0)) ∧ y = .map (some id) := by
  cases x with
  | none => simp only [AV.den, Option.some.injEq] at h; exact .inl ⟨rfl, h.symm⟩
  | some r =>
    simp only [AV.den] at h
    split at h
    · rename_i id hid; cases h; exact .inr ⟨r, id, rfl, hid, rfl⟩
    · cases h
theorem den_func' {f : Fn} {l r : List AV} {y : Value} (h : (AV.func f l r).den E = some y) : ∃ xs ys, denL E l = some xs ∧ denL E r = some ys ∧ y = .func f xs.toArray ys.toArray := by
  simp only [AV.den] at h
  split at h
  · rename_i x z h1 h2; cases h; exact ⟨x, z, h1, h2, rfl⟩
  · cases h
theorem den_yld {l : Nat} {y : Value} (h : (AV.yld l).den E = some y) : ∃ id, E.m[l]? = some (some (id, 0)) ∧ y = .func (.yield id) #[] #[] := by
  simp only [AV.den] at h
  split at h
  · rename_i id hid; cases h; exact ⟨id, hid, rfl⟩
  · cases h
theorem den_iface' {t : TypeId} {v : AV} {y : Value} (h : (AV.iface t v).den E = some y) : ∃ x, v.den E = some x ∧ y = .iface t x := by
  simp only [AV.den, Option.map_eq_some_iff] at h
  obtain ⟨x, h1, h2⟩ := h
  exact ⟨x, h1, h2.symm⟩

def okShape : Value → Bool
  | .int .. | .float .. | .complex .. | .string _ | .agg _ => false
  | _ => true
theorem eqD_shape {c : Bool} {d : TypeDesc} {x y : AV} {b : Bool} (h : eqD c d x y = some b) {p q : Value} (hp : x.den E = some p) (hq : y.den E = some q) :
    okShape p = true ∧ (p = .nilIface → q = .nilIface → c = true) := by
  have sl : ∀ {x : Option AAddr} {n : Nat} {c' : Cap} {p q : Value}, (AV.slice x n c').den E = some p → okShape p = true ∧ (p = .nilIface → q = .nilIface → c = true) := by
    intro x n c' p q hp
    obtain ⟨a1, c1, rfl, h1⟩ := den_slice' hp; exact ⟨rfl, fun h => by cases h⟩
  unfold eqD at h
  split at h
  · split at h
    · simp only [AV.den, Option.some.injEq] at hp; subst hp; exact ⟨rfl, fun h => by cases h⟩
    · obtain ⟨ad, _, rfl⟩ := den_ptr hp; exact ⟨rfl, fun h => by cases h⟩
    · cases h
  · split at h
    · exact sl hp
    · exact sl hp
    · obtain ⟨_, _, _, _, _, rfl⟩ := den_sl0 hp; exact ⟨rfl, fun h => by cases h⟩
    · exact sl hp
    · cases h
  · split at h
    · rcases den_map' hp with ⟨_, rfl⟩ | ⟨_, _, _, _, rfl⟩ <;> exact ⟨rfl, fun h => by cases h⟩
    · rcases den_map' hp with ⟨_, rfl⟩ | ⟨_, _, _, _, rfl⟩ <;> exact ⟨rfl, fun h => by cases h⟩
    · cases h
  · split at h
    · simp only [AV.den, Option.some.injEq] at hp; subst hp; exact ⟨rfl, fun h => by cases h⟩
    · simp only [AV.den, Option.some.injEq] at hp; subst hp; exact ⟨rfl, fun h => by cases h⟩
    · obtain ⟨_, _, _, _, rfl⟩ := den_func' hp; exact ⟨rfl, fun h => by cases h⟩
    · simp only [AV.den, Option.some.injEq] at hp; subst hp; exact ⟨rfl, fun h => by cases h⟩
    · obtain ⟨_, _, rfl⟩ := den_yld hp; exact ⟨rfl, fun h => by cases h⟩
    · cases h
  · split at h
    · obtain ⟨hc, _⟩ := bif_some h
      simp only [AV.den, Option.some.injEq] at hp; subst hp; exact ⟨rfl, fun _ _ => hc⟩
    · simp only [AV.den, Option.some.injEq] at hp; subst hp
      obtain ⟨xs, _, rfl⟩ := den_iface' hq
      exact ⟨rfl, fun _ h => by cases h⟩
    · obtain ⟨xs, _, rfl⟩ := den_iface' hp; exact ⟨rfl, fun h => by cases h⟩
    · cases h
  · cases h
theorem eqD_sound {P : Program} {c : Bool} {d : TypeDesc} {x y : AV} {b : Bool} (h : eqD c d x y = some b) {t : TypeId} (ht : P.underlying t = some d) {p q : Value} (hp : x.den E = some p) (hq : y.den E = some q) (n : Nat) (w : World) :
    (Op.equalIn (n + 1) t p q).run P w = .ok b w := by
  have hu := run_underlying ht w
  unfold eqD at h
  split at h
  · split at h
    · cases h
      simp only [AV.den, Option.some.injEq] at hp; subst hp
      obtain ⟨ad, rfl, h2⟩ := den_ptr' hq
      simp [Op.equalIn, hu, isNo_eq, h2]
    · cases h
      obtain ⟨ad, _, rfl⟩ := den_ptr hp
      simp only [AV.den, Option.some.injEq] at hq; subst hq
      simp [Op.equalIn, hu]
    · cases h
  · split at h
    · cases h
      obtain ⟨a1, c1, rfl, h1⟩ := den_slice' hp
      obtain ⟨ad, c2, rfl, h2⟩ := den_slice' hq
      cases a1 with
      | some _ => cases h1
      | none => simp [Op.equalIn, hu, isNo_eq, h2]
    · cases h
      obtain ⟨a1, c1, rfl, h1⟩ := den_slice' hp
      obtain ⟨ad, c2, rfl, h2⟩ := den_slice' hq
      cases a1 with
      | none => cases h1
      | some _ => cases ad with
        | some _ => cases h2
        | none => simp [Op.equalIn, hu]
    · cases h
      obtain ⟨_, _, _, _, _, rfl⟩ := den_sl0 hp
      obtain ⟨ad, c2, rfl, h2⟩ := den_slice' hq
      cases ad with
      | some _ => cases h2
      | none => simp [Op.equalIn, hu]
    · cases h
      obtain ⟨_, _, _, _, _, rfl⟩ := den_sl0 hq
      obtain ⟨ad, c2, rfl, h2⟩ := den_slice' hp
      cases ad with
      | some _ => cases h2
      | none => simp [Op.equalIn, hu]
    · cases h
  · split at h
    · cases h
      simp only [AV.den, Option.some.injEq] at hp; subst hp
      rcases den_map' hq with ⟨rfl, rfl⟩ | ⟨_, _, rfl, _, rfl⟩ <;> simp [Op.equalIn, hu, isNo_eq]
    · cases h
      simp only [AV.den, Option.some.injEq] at hq; subst hq
      rcases den_map' hp with ⟨e, rfl⟩ | ⟨_, _, e, _, rfl⟩
      · cases e
      · simp [Op.equalIn, hu]
    · cases h
  · split at h
    · cases h
      simp only [AV.den, Option.some.injEq] at hp hq; subst hp hq
      simp [Op.equalIn, hu]
    · cases h
      simp only [AV.den, Option.some.injEq] at hp; subst hp
      obtain ⟨xs, ys, _, _, rfl⟩ := den_func' hq
      simp [Op.equalIn, hu]
    · cases h
      simp only [AV.den, Option.some.injEq] at hq; subst hq
      obtain ⟨xs, ys, _, _, rfl⟩ := den_func' hp
      simp [Op.equalIn, hu]
    · cases h
      simp only [AV.den, Option.some.injEq] at hp; subst hp
      obtain ⟨_, _, rfl⟩ := den_yld hq
      simp [Op.equalIn, hu]
    · cases h
      simp only [AV.den, Option.some.injEq] at hq; subst hq
      obtain ⟨_, _, rfl⟩ := den_yld hp
      simp [Op.equalIn, hu]
    · cases h
  · split at h
    · obtain ⟨_, h⟩ := bif_some h
      cases h
      simp only [AV.den, Option.some.injEq] at hp hq; subst hp hq
      simp [Op.equalIn, hu]
    · cases h
      simp only [AV.den, Option.some.injEq] at hp; subst hp
      obtain ⟨xs, _, rfl⟩ := den_iface' hq
      simp [Op.equalIn, hu]
    · cases h
      simp only [AV.den, Option.some.injEq] at hq; subst hq
      obtain ⟨xs, _, rfl⟩ := den_iface' hp
      simp [Op.equalIn, hu]
    · cases h
  · cases h
theorem binOp_eql (t : TypeId) {p : Value} (q : Value) (h : okShape p = true) : Go.binOp .eql t p q = (do pure (.bool (← Op.equal t p q))) := by
  cases p <;> first | (cases h; done) | (cases q <;> rfl)
theorem binOp_neq (t : TypeId) {p : Value} (q : Value) (h : okShape p = true) : Go.binOp .neq t p q = (do pure (.bool (!(← Op.equal t p q)))) := by
  cases p <;> first | (cases h; done) | (cases q <;> rfl)
theorem eqGuard_ok {P : Program} (op : BinOp) (t : TypeId) (x y : Operand) {p q : Value} (h : okShape p = true) (hn : p = .nilIface → q = .nilIface → (isConst x || isConst y) = true) (w : World) :
    (eqGuard op t x y p q).run P w = .ok () w := by
  unfold eqGuard
  cases p <;> cases q <;> first | (cases h; done) | (cases op <;> simp; done) | skip
  have := hn rfl rfl
  cases x <;> cases y <;> first | (simp [isConst] at this; done) | (cases op <;> simp)
/-- The two operators that ask for no order. -/
theorem binFn_run {P : Program} {op : BinOp} {r : Bool} {v : AV} (h : binFn op r = some v) {t : TypeId} {p q : Value} {w : World} (hsh : okShape p = true ∨ ∃ c, p = .agg c) (heq : (Op.equal t p q).run P w = .ok r w) :
    ∃ b, v = .bool b ∧ (Go.binOp op t p q).run P w = .ok (.bool b) w := by
  have e1 : Go.binOp .eql t p q = (do pure (.bool (← Op.equal t p q))) := by
    rcases hsh with h | ⟨c, rfl⟩
    · exact binOp_eql t q h
    · cases q <;> rfl
  have e2 : Go.binOp .neq t p q = (do pure (.bool (!(← Op.equal t p q)))) := by
    rcases hsh with h | ⟨c, rfl⟩
    · exact binOp_neq t q h
    · cases q <;> rfl
  unfold binFn at h
  split at h
  · cases h; exact ⟨_, rfl, by rw [e1]; simp [heq]⟩
  · cases h; exact ⟨_, rfl, by rw [e2]; simp [heq]⟩
  · cases h
end
end Go.Sy
