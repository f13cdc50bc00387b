import Derived.Test.YtfkaabhmcdiihaaSyTwo
import Derived.Lib.Strings
import Derived.Laws.Tables
import Derived.Laws.MakeOwn
import Derived.Great.BuildSlice
import Derived.ChangeMaps3
/-! Operations that leave memory as it is, whenever they come: operands. -/
namespace Go.Sy

/-- Operands' values. -/
def Rd (E : Env) (tm : Tm) (ρ : Operand → Value) (l : List Operand) : Prop := ∀ x ∈ l, ∀ b, cO x = some b → (ev tm b).den E = some (ρ x)
def Oks (E : Env) (tm : Tm) : Prop := ∀ t, okv E (slot tm (pth t))
theorem Rd.get {E : Env} {tm : Tm} {ρ : Operand → Value} {l : List Operand} (h : Rd E tm ρ l) {x : Operand} (hx : x ∈ l) {b : BO} (hb : cO x = some b) : (ev tm b).den E = some (ρ x) := h x hx b hb
theorem Oks.ev {E : Env} {tm : Tm} (h : Oks E tm) {x : Operand} {b : BO} (hb : cO x = some b) : okv E (ev tm b) := by
  cases x with
  | tmp t => cases hb; exact h t
  | const v =>
    obtain ⟨v', hv, e⟩ := obind_inv hb
    cases e
    exact ⟨_, den_ofVal hv⟩
  | «global» g => cases hb; exact ⟨_, den_ptr_of rfl⟩
  | func f => cases hb; exact ⟨_, rfl⟩
theorem Oks.mono {E E' : Env} (hE : E.Le E') {tm : Tm} (h : Oks E tm) : Oks E' tm := fun t => (h t).mono hE
theorem Oks.put {E : Env} {tm : Tm} (h : Oks E tm) {v : AV} (hv : okv E v) (d : Nat) : Oks E (Tr.put (pth d) tm (some v)) := by
  intro t
  by_cases e : d = t
  · subst e; rw [slot_put_same]; exact hv
  · rw [slot_put_other _ _ (fun h => e (pth_inj h))]; exact h t
/-- The values that an activation's operands have. -/
theorem Rd.act {E : Env} {tm : Tm} {a : Act} {l : List Operand} (h : ∀ t, Operand.tmp t ∈ l → (slot tm (pth t)).den E = some (a.tmps.getD t undef)) : Rd E tm a.eval l := by
  intro x hx b hb
  cases x with
  | tmp t => cases hb; exact h t hx
  | const v =>
    obtain ⟨v', hv, e⟩ := obind_inv hb
    cases e
    exact den_ofVal hv
  | «global» g => cases hb; exact den_ptr_of rfl
  | func f => cases hb; exact rfl
/-- Values for operands once all blocks are there. -/
theorem Oks.rd {E : Env} {tm : Tm} (h : Oks E tm) (l : List Operand) : ∃ ρ, Rd E.fill tm ρ l :=
  ⟨fun x => ((cO x).bind fun b => (Sy.ev tm b).den E.fill).getD undef, fun x _ b hb => by
    obtain ⟨y, hy⟩ := h.ev hb
    simp [hb, hy]⟩

section
variable {X : Tabs} {K : Nat → Prop} {w0 : World} {E : Env} {st : St} {w : World} {Θ : Pred} {R : List Back} {tm : Tm} {k : Kt} {o : Oper}

/-- It leaves memory as it is, and yields v's value whenever it comes. -/
def ValOut (X : Tabs) (Θ : Pred) (R : List Back) (E : Env) (o : Oper) (tm : Tm) (st : St) (k : Kt) : Prop :=
  ∃ v f, (k v (st.withF f)).holds Θ E.va R ∧ FOK E.va f ∧ ∀ E' ρ, E.Le E' → Rd E' tm ρ o.op.operands.toList → ∃ y, v.den E' = some y ∧ ∀ w, (execOp ρ o).run X.P w = .ok (.value y) w
theorem ValOut.now {v : AV} (hk : (k v st).holds Θ E.va R) (hf : FOK E.va st.facts) (h : ∀ E' ρ, E.Le E' → Rd E' tm ρ o.op.operands.toList → ∃ y, v.den E' = some y ∧ ∀ w, (execOp ρ o).run X.P w = .ok (.value y) w) : ValOut X Θ R E o tm st k :=
  ⟨v, st.facts, by rw [withF_self]; exact hk, hf, h⟩
theorem outK_inv {o : Option AV} (h : (outK st k o).holds Θ E.va R) : ∃ v, o = some v ∧ (k v st).holds Θ E.va R := by
  cases o with
  | none => exact h.elim
  | some v => exact ⟨v, rfl, h⟩
theorem asPtr_inv {v : AV} {x : AAddr} (h : asPtr v = some x) : v = .ptr (some x) := by
  unfold asPtr at h; split at h
  · cases h; rfl
  · cases h
theorem asAgg_inv {v : AV} {l : List AV} (h : asAgg v = some l) : v = .agg l := by
  unfold asAgg at h; split at h
  · cases h; rfl
  · cases h
theorem fieldsOf_inv {d : TypeDesc} {fs : List Field} (h : fieldsOf d = some fs) : ∃ f : Array Field, d = .struct f ∧ f.toList = fs := by
  unfold fieldsOf at h; split at h
  · cases h; exact ⟨_, rfl, rfl⟩
  · cases h
theorem halfLe (k : IntKind) : halfOf k ≤ 18446744073709551616 := by cases k <;> decide
/-- A number's value does not hang on where things are. -/
theorem toT_inv {v : AV} {kd : IntKind} {t : T} (h : toT v = some (kd, t)) (hv : okv E v) : ∃ n, t.ev E.va = some (.i n) ∧ (Lit.int kd n).wf = true ∧ ∀ E' x, E.Le E' → v.den E' = some x → x = .int kd n := by
  obtain ⟨x, hx⟩ := hv
  unfold toT at h
  split at h
  · cases h
    obtain ⟨h1, _⟩ := den_int hx
    exact ⟨_, rfl, sgn_wf _ h1, fun E' y _ hy => (den_int hy).2⟩
  · cases h
    obtain ⟨n, h1, h2, _⟩ := den_sym hx
    refine ⟨n, h1, h2, fun E' y hE hy => ?_⟩
    obtain ⟨m, g1, _, g3⟩ := den_sym hy
    have := ev_mono hE.va h1
    rw [g1] at this; cases this
    exact g3
  · cases h
theorem toT_int (k : IntKind) (u : Nat) : toT (.int k u) = some (k, .z (sgn k u)) := rfl
theorem cnd_inv {c : T} (hv : okv E (.cnd c)) : ∃ b, c.ev E.va = some (.b b) ∧ ∀ E' x, E.Le E' → (AV.cnd c).den E' = some x → x = .bool b := by
  obtain ⟨x, hx⟩ := hv
  obtain ⟨b, h1, _⟩ := den_cnd hx
  refine ⟨b, h1, fun E' y hE hy => ?_⟩
  obtain ⟨m, g1, g3⟩ := den_cnd hy
  have := ev_mono hE.va h1
  rw [g1] at this; cases this
  exact g3
theorem natOf_inv {v : AV} {n : Nat} (h : natOf v = some n) (hv : okv E v) : ∃ kd, v = .int kd n ∧ sgn kd n = (n : Int) ∧ n < 18446744073709551616 := by
  obtain ⟨x, hx⟩ := hv
  unfold natOf at h; split at h
  · rename_i kd u
    have hu := (den_int hx).1
    cases hs : isS kd with
    | true =>
      rw [hs, bif_true] at h
      obtain ⟨h1, h2⟩ := bif_some h
      cases h2
      rw [blt_iff, decide_eq_true_eq] at h1
      exact ⟨kd, rfl, sgn_nat kd h1, Nat.lt_of_lt_of_le h1 (halfLe kd)⟩
    | false =>
      rw [hs, bif_false] at h
      cases h
      refine ⟨kd, rfl, sgn_nat kd ?_, ?_⟩
      · cases kd <;> first | (cases hs; done) | exact hu
      · cases kd <;> first | (cases hs; done) | (simp only [modOf] at hu; omega)
  · cases h
/-- A place. -/
theorem enumB_inv {t : T} {x : Int} {kk : Nat → St → VC} : ∀ {f lo len : Nat} {st : St}, (enumB t kk f lo len st).holds Θ E.va R → FOK E.va st.facts → t.ev E.va = some (.i x) → (lo : Int) ≤ x → x < (lo + len : Nat) → ∃ (i : Nat) (f : List T), x = (i : Int) ∧ lo ≤ i ∧ i < lo + len ∧ FOK E.va f ∧ (kk i (st.withF f)).holds Θ E.va R
  | 0, lo, len, st, h, _, _, _, _ => h.elim
  | f + 1, lo, len, st, h, hf, ht, h1, h2 => by
    change (bif_ (Nat.beq len 1) (kk lo st) (natK (Nat.div len 2) fun h => natK (Nat.add lo h) fun mid => natK (Nat.sub len h) fun r => brK (.cmp .lss t (.z (.ofNat mid))) st (enumB t kk f lo h) (enumB t kk f mid r))).holds Θ E.va R at h
    simp only [natK_eq] at h
    rcases bif_holds h with ⟨c, h⟩ | ⟨c, h⟩
    · have hl : len = 1 := Nat.eq_of_beq_eq_true c
      subst hl
      exact ⟨lo, st.facts, by omega, Nat.le_refl _, by omega, hf, by rw [withF_self]; exact h⟩
    · have hd : Nat.div len 2 = len / 2 := rfl
      have ha : Nat.add lo (Nat.div len 2) = lo + len / 2 := rfl
      have hs : Nat.sub len (Nat.div len 2) = len - len / 2 := rfl
      rw [ha, hs, hd] at h
      obtain ⟨g, hg, h⟩ := brK_inv h hf (r := decide (x < ((lo + len / 2 : Nat) : Int))) (by rw [cmp_ev ht rfl]; rfl)
      rcases h with ⟨h3, h4⟩ | ⟨h3, h4⟩
      · rw [decide_eq_true_eq] at h3
        obtain ⟨i, g2, e1, e2, e3, e4, e5⟩ := enumB_inv h4 (by rw [withF_facts]; exact hg) ht h1 h3
        rw [withF_withF] at e5
        exact ⟨i, g2, e1, e2, by omega, e4, e5⟩
      · rw [decide_eq_false_iff_not] at h3
        obtain ⟨i, g2, e1, e2, e3, e4, e5⟩ := enumB_inv h4 (by rw [withF_facts]; exact hg) ht (by omega) (by omega)
        rw [withF_withF] at e5
        exact ⟨i, g2, e1, by omega, by omega, e4, e5⟩
theorem idxK_inv {v : AV} {n : Nat} {kk : Nat → St → VC} (h : (idxK v n st kk).holds Θ E.va R) (hf : FOK E.va st.facts) (hv : okv E v) :
    ∃ i f, i < n ∧ FOK E.va f ∧ (kk i (st.withF f)).holds Θ E.va R ∧ ∃ kd, ∀ E' x, E.Le E' → v.den E' = some x → x = .int kd i := by
  unfold idxK at h
  split at h
  · rename_i j u
    obtain ⟨u', hu, h⟩ := vbind_inv h
    obtain ⟨hlt, h⟩ := vif_inv h
    obtain ⟨kd, e1, e2, _⟩ := natOf_inv hu hv
    cases e1
    rw [blt_iff, decide_eq_true_eq] at hlt
    exact ⟨u, st.facts, hlt, hf, by rw [withF_self]; exact h, j, fun E' x _ hx => by rw [(den_int hx).2, e2]⟩
  · rename_i kd t
    obtain ⟨_, h⟩ := vif_inv h
    obtain ⟨x, ht, hw, hall⟩ := toT_inv (v := .sym kd t) rfl hv
    obtain ⟨h1, f1, hf1, h⟩ := needK_inv h hf (r := decide (0 ≤ x)) (by rw [cmp_ev ht rfl]; rfl)
    obtain ⟨h2, f2, hf2, h⟩ := needK_inv h (by rw [withF_facts]; exact hf1) (r := decide (x < (n : Int))) (by rw [cmp_ev ht rfl]; rfl)
    rw [withF_withF] at h
    obtain ⟨i, f, e, _, hi, hf3, h⟩ := enumB_inv h (by rw [withF_facts]; exact hf2) ht (by simpa using h1) (by simpa using h2)
    rw [withF_withF] at h
    exact ⟨i, f, by omega, hf3, h, kd, fun E' y hE hy => by rw [hall E' y hE hy, e]⟩
  · exact h.elim
/-- A slice's bound. -/
theorem bndK_inv {d m : Nat} {kk : Nat → St → VC} {lo : Option Operand} {lb : Option BO} (h : (bndK tm d m st kk lb).holds Θ E.va R) (hf : FOK E.va st.facts) (hO : Oks E tm) (hlo : cOo lo = some lb) :
    ∃ i f, (i ≤ m ∨ i = d) ∧ FOK E.va f ∧ (kk i (st.withF f)).holds Θ E.va R ∧ ((lo = none ∧ i = d) ∨ ∃ y b kd, lo = some y ∧ cO y = some b ∧ ∀ E' x, E.Le E' → (ev tm b).den E' = some x → x = .int kd i) := by
  cases lo with
  | none => cases hlo; exact ⟨d, st.facts, .inr rfl, hf, by rw [withF_self]; exact h, .inl ⟨rfl, rfl⟩⟩
  | some y =>
    obtain ⟨b, hb, e⟩ := obind_inv hlo
    cases e
    obtain ⟨i, f, h1, h2, h3, kd, h4⟩ := idxK_inv (v := ev tm b) h hf (hO.ev hb)
    exact ⟨i, f, .inl (by rw [natSucc] at h1; omega), h2, h3, .inr ⟨y, b, kd, rfl, hb, h4⟩⟩
theorem cOs_inv {l : List Operand} {bs : List BO} (h : cOs l = some bs) {E : Env} {ρ : Operand → Value} (hR : Rd E tm ρ l) : denL E (evs tm bs) = some (l.map ρ) := by
  induction l generalizing bs with
  | nil => cases h; rfl
  | cons x l ih =>
    change obind (cO x) (fun b => obind (cOs l) fun r => some (b :: r)) = some bs at h
    obtain ⟨b, hb, h⟩ := obind_inv h
    obtain ⟨r, hr, h⟩ := obind_inv h
    cases h
    exact denL_cons.2 ⟨_, _, hR x (by simp) b hb, ih hr fun y hy => hR y (List.mem_cons_of_mem _ hy), rfl⟩
end
end Go.Sy
/-! Terms made simpler: they stand for the same. -/
namespace Go.Sy
section
variable {ρ : Va} {facts : List T}

theorem natI_inv {o : Option Int} {n : Nat} (h : natI o = some n) : o = some (n : Int) := by
  unfold natI at h
  split at h
  · cases h; rfl
  · cases h
theorem nnF_ok {t : T} {n : Int} (h : nnF facts t = true) (hf : FOK ρ facts) (ht : t.ev ρ = some (.i n)) : 0 ≤ n := by
  unfold nnF at h
  cases hl : loF t facts with
  | none => rw [hl] at h; cases h
  | some a =>
    rw [hl] at h
    have h : (!ilt a 0) = true := h
    rw [ilt_eq] at h
    have := loF_le ht hf a hl
    simp at h
    omega
theorem shr_ev {x : T} {c : Nat} {n : Int} (hx : x.ev ρ = some (.i n)) (hc : c < 64) : (T.bin .shr .u64 x (.z (.ofNat c))).ev ρ = some (.i (n.fdiv (2 ^ c))) := by
  have : min c 64 = c := by omega
  simp only [T.ev, hx, zar]
  rw [if_neg (by have := Int.natCast_nonneg c; show ¬ (c : Int) < 0; omega)]
  show (some (n.fdiv (2 ^ (min ((c : Int)).toNat IntKind.u64.bits)))).map D.i = _
  rw [Int.toNat_natCast, show IntKind.u64.bits = 64 from rfl, this]; rfl
theorem shr_inv {x : T} {c : Nat} {v : Int} (h : (T.bin .shr .u64 x (.z (.ofNat c))).ev ρ = some (.i v)) (hc : c < 64) : ∃ n, x.ev ρ = some (.i n) ∧ v = n.fdiv (2 ^ c) := by
  cases hx : x.ev ρ with
  | none => simp [T.ev, hx] at h
  | some p =>
    cases p with
    | i n => rw [shr_ev hx hc] at h; cases h; exact ⟨n, rfl, rfl⟩
    | b _ => simp [T.ev, hx] at h
    | a _ => simp [T.ev, hx] at h
theorem pow_pos' (c : Nat) : (0 : Int) < 2 ^ c := Int.pow_pos (by decide)
theorem nmin_eq' (a b : Nat) : nmin a b = min a b := by
  unfold nmin
  cases e : Nat.ble a b with
  | true => have := Nat.le_of_ble_eq_true e; rw [bif_true]; omega
  | false =>
    rw [bif_false]
    have : ¬ a ≤ b := fun h => by rw [Nat.ble_eq_true_of_le h] at e; cases e
    omega
theorem shl_inv {a : T} {v : Int} (h : (T.bin .shl .u64 a (.z (.ofNat 8))).ev ρ = some (.i v)) : ∃ n, a.ev ρ = some (.i n) ∧ v = (n * 256) % 18446744073709551616 := by
  cases hx : a.ev ρ with
  | none => simp [T.ev, hx] at h
  | some p =>
    cases p with
    | i n =>
      simp only [T.ev, hx, zar] at h
      refine ⟨n, rfl, ?_⟩
      have h : (some (IntKind.u64.wrap (n * 256))).map D.i = some (D.i v) := h
      have h : IntKind.u64.wrap (n * 256) = v := by simpa using h
      rw [← h]; simp [IntKind.wrap, IntKind.signed, IntKind.bits]
    | b _ => simp [T.ev, hx] at h
    | a _ => simp [T.ev, hx] at h
theorem or_inv {x y : T} {v : Int} (h : (T.bin .or .u64 x y).ev ρ = some (.i v)) : ∃ n m, x.ev ρ = some (.i n) ∧ y.ev ρ = some (.i m) ∧ zar .or .u64 n m = some v := by
  cases hx : x.ev ρ with
  | none => simp [T.ev, hx] at h
  | some p =>
    cases hy : y.ev ρ with
    | none => simp [T.ev, hx, hy] at h
    | some q =>
      cases p <;> cases q <;> simp only [T.ev, hx, hy] at h <;> try (cases h; done)
      rename_i n m
      refine ⟨n, m, rfl, rfl, ?_⟩
      cases hz : zar .or .u64 n m with
      | none => rw [hz] at h; cases h
      | some c => rw [hz] at h; cases h; rfl
theorem wrapU (n : Int) : IntKind.u64.wrap n = n % 18446744073709551616 := by
  simp [IntKind.wrap, IntKind.signed, IntKind.bits]
theorem or_small {x y : Int} (hx : 0 ≤ x) (hx' : x ≤ 18446744073709551615) (hm : x % 256 = 0) (hy : 0 ≤ y) (hy' : y ≤ 255) : (BitVec.ofInt 64 x ||| BitVec.ofInt 64 y).toNat = (x + y).toNat := by
  obtain ⟨a, rfl⟩ := Int.eq_ofNat_of_zero_le hx
  obtain ⟨b, rfl⟩ := Int.eq_ofNat_of_zero_le hy
  rw [BitVec.toNat_or, BitVec.toNat_ofInt, BitVec.toNat_ofInt]
  have e1 : ((a : Int) % ((2 ^ 64 : Nat) : Int)).toNat = a := by
    rw [Int.emod_eq_of_lt (by omega) (by show (a : Int) < 18446744073709551616; omega)]; rfl
  have e2 : ((b : Int) % ((2 ^ 64 : Nat) : Int)).toNat = b := by
    rw [Int.emod_eq_of_lt (by omega) (by show (b : Int) < 18446744073709551616; omega)]; rfl
  rw [e1, e2]
  obtain ⟨q, rfl⟩ : ∃ q, a = 2 ^ 8 * q := ⟨a / 256, by omega⟩
  rw [← Nat.two_pow_add_eq_or_of_lt (i := 8) (b := b) (by omega) q]
  omega
theorem zor {x y : Int} (hx : 0 ≤ x) (hx' : x ≤ 18446744073709551615) (hm : x % 256 = 0) (hy : 0 ≤ y) (hy' : y ≤ 255) : zar .or .u64 x y = some (x + y) := by
  have := or_small hx hx' hm hy hy'
  show some (IntKind.u64.wrap (((BitVec.ofInt 64 x ||| BitVec.ofInt 64 y).toNat : Nat) : Int)) = _
  rw [this, wrapU, Int.toNat_of_nonneg (by omega)]
  congr 1
  omega
theorem ubS_ok (hf : FOK ρ facts) : ∀ {t : T} {h : Nat}, ubS facts t = some h → ∀ {n : Int}, t.ev ρ = some (.i n) → 0 ≤ n ∧ n ≤ (h : Int) := by
  intro t
  fun_induction ubS facts t with
  | case1 x c ih =>
    intro h hh n hn
    obtain ⟨e, hh⟩ := bif_some hh
    rw [blt_iff, decide_eq_true_eq] at e
    obtain ⟨g, hg, hh⟩ := obind_inv hh
    cases hh
    obtain ⟨q, hq, rfl⟩ := shr_inv hn e
    have := ih hg hq
    rw [Int.fdiv_eq_ediv_of_nonneg _ (Int.le_of_lt (pow_pos' c))]
    refine ⟨Int.ediv_nonneg this.1 (Int.le_of_lt (pow_pos' c)), ?_⟩
    show q / 2 ^ c ≤ ((g / 2 ^ c : Nat) : Int)
    rw [Int.natCast_ediv, Int.natCast_pow]
    exact Int.ediv_le_ediv (pow_pos' c) this.2
  | case2 a y ih1 ih2 =>
    intro h hh n hn
    obtain ⟨g1, hg1, hh⟩ := obind_inv hh
    obtain ⟨g2, hg2, hh⟩ := obind_inv hh
    obtain ⟨e, hh⟩ := bif_some hh
    have e := Nat.le_of_ble_eq_true e
    rw [natK_eq] at hh
    cases hh
    obtain ⟨u, m, hu, hm, hz⟩ := or_inv hn
    obtain ⟨q, hq, rfl⟩ := shl_inv hu
    have h1 := ih1 hg1 hq
    have h2 := ih2 hg2 hm
    rw [zor (by omega) (by omega) (by omega) h2.1 (by omega)] at hz
    cases hz
    rw [nmin_eq']
    show _ ∧ _ ≤ ((min (g1 * 256 + 255) 18446744073709551615 : Nat) : Int)
    omega
  | case3 k x m =>
    intro h hh n hn
    obtain ⟨e, hh⟩ := bif_some hh
    cases m with
    | zero => cases hh
    | succ j =>
      have hh : some j = some h := hh
      cases hh
      cases hx : x.ev ρ with
      | none => simp [T.ev, hx] at hn
      | some q =>
        cases q with
        | i v =>
          have hv := nnF_ok e hf hx
          simp only [T.ev, hx, zar] at hn
          have hj : ¬ (Int.ofNat (h + 1) = 0) := by intro e; cases e
          rw [if_neg hj] at hn
          have hn : v.tmod (Int.ofNat (h + 1)) = n := by simpa using hn
          rw [Int.tmod_eq_emod_of_nonneg hv] at hn
          have h1 := Int.emod_nonneg v hj
          have h2 := Int.emod_lt_of_pos v (show (0 : Int) < Int.ofNat (h + 1) from Int.natCast_pos.2 (Nat.succ_pos h))
          rw [hn] at h1 h2
          refine ⟨h1, ?_⟩
          have h2 : n < ((h + 1 : Nat) : Int) := h2
          omega
        | b _ => simp [T.ev, hx] at hn
        | a _ => simp [T.ev, hx] at hn
  | case4 t _ _ _ =>
    intro h hh n hn
    obtain ⟨e, hh⟩ := bif_some hh
    exact ⟨nnF_ok e hf hn, le_hiF hn hf _ (natI_inv hh)⟩
theorem inUB_ok {t : T} {n : Nat} {v : Int} (h : inUB facts t n = true) (hf : FOK ρ facts) (ht : t.ev ρ = some (.i v)) : 0 ≤ v ∧ v < (n : Int) := by
  unfold inUB at h
  cases hu : ubS facts t with
  | none => rw [hu] at h; cases h
  | some g =>
    rw [hu] at h
    have h : Nat.blt g n = true := h
    rw [blt_iff, decide_eq_true_eq] at h
    have := ubS_ok hf hu ht
    omega
theorem fitsF_ok {k : IntKind} {t : T} {n : Int} (h : fitsF facts k t = true) (hf : FOK ρ facts) (ht : t.ev ρ = some (.i n)) : minOf k ≤ n ∧ n ≤ maxOf k := by
  unfold fitsF at h
  cases hl : loF t facts with
  | none => rw [hl] at h; cases h
  | some a =>
    rw [hl] at h
    have h : bif_ (ilt a (minOf k)) false (Option.rec false (fun b => not (ilt (maxOf k) b)) (hiF t facts)) = true := h
    cases e : ilt a (minOf k) with
    | true => rw [e] at h; cases h
    | false =>
      rw [e, bif_false] at h
      cases hh : hiF t facts with
      | none => rw [hh] at h; cases h
      | some b =>
        rw [hh] at h
        have h : (!ilt (maxOf k) b) = true := h
        rw [ilt_eq] at e h
        have h1 := loF_le ht hf a hl
        have h2 := le_hiF ht hf b hh
        simp at e h
        omega
theorem min_le0 (k : IntKind) : minOf k ≤ 0 := by cases k <;> decide
theorem fitsK_ok {k : IntKind} {t : T} {n : Int} (h : fitsK facts k t = true) (hf : FOK ρ facts) (ht : t.ev ρ = some (.i n)) : minOf k ≤ n ∧ n ≤ maxOf k := by
  unfold fitsK at h
  cases e : fitsF facts k t with
  | true => exact fitsF_ok e hf ht
  | false =>
    rw [e, bif_false] at h
    cases hu : ubS facts t with
    | none => rw [hu] at h; cases h
    | some g =>
      rw [hu] at h
      have h : (!ilt (maxOf k) (g : Int)) = true := h
      rw [ilt_eq] at h
      have := ubS_ok hf hu ht
      have := min_le0 k
      simp at h
      omega
theorem wf_of {k : IntKind} {n : Int} (h : minOf k ≤ n ∧ n ≤ maxOf k) : (Lit.int k n).wf = true := by
  cases k <;> simp [minOf, maxOf] at h <;> simp [Lit.wf, IntKind.min, IntKind.max, IntKind.signed, IntKind.bits] <;> omega
theorem cvD_ev {k : IntKind} {t : T} {n : Int} (hf : FOK ρ facts) (ht : t.ev ρ = some (.i n)) : (cvD facts k t).ev ρ = some (.i (k.wrap n)) := by
  unfold cvD
  cases e : fitsK facts k t with
  | true => rw [bif_true, wf_wrap (wf_of (fitsK_ok e hf ht)), ht]
  | false => rw [bif_false]; simp only [T.ev, ht]
theorem shrC_ev {x : T} {c : Nat} {n : Int} (hx : x.ev ρ = some (.i n)) (hc : c < 64) : (shrC x c).ev ρ = some (.i (n.fdiv (2 ^ c))) := by
  unfold shrC
  split
  · rename_i y d
    cases e : Nat.blt (Nat.add d c) 64 with
    | false => rw [bif_false]; exact shr_ev hx hc
    | true =>
      rw [bif_true]
      rw [blt_iff, decide_eq_true_eq] at e
      have e : d + c < 64 := e
      obtain ⟨m, hm, rfl⟩ := shr_inv hx (show d < 64 by omega)
      have := shr_ev hm e
      show (T.bin .shr .u64 y (.z (.ofNat (d + c)))).ev ρ = _
      rw [this]
      congr 2
      rw [Int.fdiv_eq_ediv_of_nonneg _ (Int.le_of_lt (pow_pos' _)), Int.fdiv_eq_ediv_of_nonneg _ (Int.le_of_lt (pow_pos' _)), Int.fdiv_eq_ediv_of_nonneg _ (Int.le_of_lt (pow_pos' _)), Int.pow_add, ← Int.ediv_ediv_of_nonneg (Int.le_of_lt (pow_pos' _))]
  · cases e : Nat.beq c 0 with
    | false => rw [bif_false]; exact shr_ev hx hc
    | true =>
      rw [bif_true, hx]
      have := Nat.eq_of_beq_eq_true e
      subst this
      simp [Int.fdiv_one]
theorem zeroT_ev {t : T} {n : Int} (hf : FOK ρ facts) (ht : t.ev ρ = some (.i n)) : (zeroT facts t).ev ρ = some (.i n) := by
  unfold zeroT
  cases hu : ubS facts t with
  | none => exact ht
  | some h =>
    show (bif_ (Nat.beq h 0) (.z (.ofNat 0)) t : T).ev ρ = _
    cases e : Nat.beq h 0 with
    | false => exact ht
    | true =>
      have := ubS_ok hf hu ht
      rw [beq_iff, decide_eq_true_eq] at e
      have : n = 0 := by omega
      rw [this]; rfl
theorem shrT_ev {x : T} {c : Nat} {n : Int} (hf : FOK ρ facts) (hx : x.ev ρ = some (.i n)) (hc : c < 64) : (shrT facts x c).ev ρ = some (.i (n.fdiv (2 ^ c))) := by
  unfold shrT
  rw [natK_eq]
  have : Nat.mul c 1 = c := Nat.mul_one c
  rw [this]
  cases e : Nat.beq c 0 with
  | true =>
    rw [bif_true, hx]
    have := Nat.eq_of_beq_eq_true e
    subst this
    simp [Int.fdiv_one]
  | false => rw [bif_false]; exact zeroT_ev hf (shrC_ev hx hc)
theorem shlT_ev {x : T} {n : Int} (hx : x.ev ρ = some (.i n)) : (shlT x).ev ρ = some (.i (IntKind.u64.wrap (n * 256))) := by
  unfold shlT
  cases e : T.beq x (.z (.ofNat 0)) with
  | true =>
    rw [bif_true]
    rw [T.beq_eq e] at hx
    have : n = 0 := by simpa [T.ev] using hx.symm
    subst this
    rw [wrapU]; rfl
  | false =>
    rw [bif_false]
    simp only [T.ev, hx, zar]
    rfl
theorem orT_ev {op : BinOp} {x y : T} {n m c : Int} (hop : op = .or ∨ op = .add) (hf : FOK ρ facts) (hx : x.ev ρ = some (.i n)) (hy : y.ev ρ = some (.i m)) (hwy : (Lit.int .u64 m).wf = true) (h : zar op .u64 n m = some c) : (orT facts op x y).ev ρ = some (.i c) := by
  have hbin : (T.bin op .u64 x y).ev ρ = some (.i c) := by simp only [T.ev, hx, hy, h]; rfl
  have hm : 0 ≤ m ∧ m ≤ 18446744073709551615 := wf_range hwy
  unfold orT
  cases e : T.beq x (.z (.ofNat 0)) with
  | true =>
    rw [bif_true, hy]
    rw [T.beq_eq e] at hx
    have : n = 0 := by simpa [T.ev] using hx.symm
    subst this
    congr 2
    rcases hop with rfl | rfl
    · have : zar .or .u64 0 m = some (IntKind.u64.wrap (((BitVec.ofInt 64 0 ||| BitVec.ofInt 64 m).toNat : Nat) : Int)) := rfl
      rw [this] at h
      have h := (Option.some.inj h).symm
      rw [h, show BitVec.ofInt 64 0 = 0#64 from rfl, BitVec.zero_or, BitVec.toNat_ofInt, wrapU]
      have e1 : ((m : Int) % ((2 ^ 64 : Nat) : Int)) = m := Int.emod_eq_of_lt (by omega) (by show m < 18446744073709551616; omega)
      rw [e1, Int.toNat_of_nonneg (by omega)]
      omega
    · have h := (Option.some.inj (show some (IntKind.u64.wrap (0 + m)) = some c from h)).symm
      rw [h, wrapU]; omega
  | false =>
    rw [bif_false]
    split
    · rename_i a
      cases e1 : fitsK facts .u8 y with
      | false => rw [bif_false]; exact hbin
      | true =>
        rw [bif_true]
        have hr : 0 ≤ m ∧ m ≤ 255 := fitsK_ok e1 hf hy
        obtain ⟨q, hq, hn⟩ := shl_inv hx
        have hn0 : 0 ≤ n ∧ n ≤ 18446744073709551615 ∧ n % 256 = 0 := by omega
        have hz := zor hn0.1 hn0.2.1 hn0.2.2 hr.1 hr.2
        have hc : c = n + m := by
          rcases hop with rfl | rfl
          · rw [hz] at h; exact (Option.some.inj h).symm
          · have h := (Option.some.inj (show some (IntKind.u64.wrap (n + m)) = some c from h)).symm
            rw [h, wrapU]; omega
        have hor : (T.bin .or .u64 (.bin .shl .u64 a (.z (.ofNat 8))) y).ev ρ = some (.i c) := by
          rw [hc]
          unfold T.ev
          rw [hx, hy]
          simp only [hz]; rfl
        unfold joinT
        split
        · rename_i b
          cases e2 : T.beq a (shrC b 8) && fitsK facts .u64 b with
          | false => rw [bif_false]; exact hor
          | true =>
            rw [bif_true]
            rw [Bool.and_eq_true] at e2
            cases hb : b.ev ρ with
            | none => simp [T.ev, hb] at hy
            | some p =>
              cases p with
              | i v =>
                have hv : 0 ≤ v ∧ v ≤ 18446744073709551615 := fitsK_ok e2.2 hf hb
                rw [T.beq_eq e2.1, shrC_ev hb (by decide)] at hq
                have hq := (D.i.inj (Option.some.inj hq)).symm
                have hm8 : m = v % 256 := by
                  simp only [T.ev, hb] at hy
                  have := (D.i.inj (Option.some.inj hy)).symm
                  rw [this]; simp [IntKind.wrap, IntKind.signed, IntKind.bits]
                have hq : q = v / 256 := by
                  rw [hq, Int.fdiv_eq_ediv_of_nonneg _ (by decide)]; rfl
                congr 2
                omega
              | b _ => simp [T.ev, hb] at hy
              | a _ => simp [T.ev, hb] at hy
        · exact hor
    · exact hbin
theorem wrap8 (n : Int) : IntKind.u8.wrap n = n % 256 := by
  simp [IntKind.wrap, IntKind.signed, IntKind.bits]
theorem byte_step {q m : Int} {j : Nat} (hj : j + 1 < 8) (hm : 0 ≤ m ∧ m ≤ 255) : ((q * 256 % 18446744073709551616 + m) / 2 ^ (8 * (j + 1))) % 256 = (q / 2 ^ (8 * j)) % 256 := by
  have : j = 0 ∨ j = 1 ∨ j = 2 ∨ j = 3 ∨ j = 4 ∨ j = 5 ∨ j = 6 := by omega
  rcases this with rfl | rfl | rfl | rfl | rfl | rfl | rfl
  · show ((q * 256 % 18446744073709551616 + m) / 256) % 256 = (q / 1) % 256; omega
  · show ((q * 256 % 18446744073709551616 + m) / 65536) % 256 = (q / 256) % 256; omega
  · show ((q * 256 % 18446744073709551616 + m) / 16777216) % 256 = (q / 65536) % 256; omega
  · show ((q * 256 % 18446744073709551616 + m) / 4294967296) % 256 = (q / 16777216) % 256; omega
  · show ((q * 256 % 18446744073709551616 + m) / 1099511627776) % 256 = (q / 4294967296) % 256; omega
  · show ((q * 256 % 18446744073709551616 + m) / 281474976710656) % 256 = (q / 1099511627776) % 256; omega
  · show ((q * 256 % 18446744073709551616 + m) / 72057594037927936) % 256 = (q / 281474976710656) % 256; omega
theorem byteD_ev {x : T} {n : Int} {j : Nat} (hf : FOK ρ facts) (hx : x.ev ρ = some (.i n)) (hj : j < 8) : (cvD facts .u8 (shrC x (Nat.mul 8 j))).ev ρ = some (.i ((n / 2 ^ (8 * j)) % 256)) := by
  have hc : Nat.mul 8 j < 64 := by show 8 * j < 64; omega
  rw [cvD_ev hf (shrC_ev hx hc), wrap8, Int.fdiv_eq_ediv_of_nonneg _ (Int.le_of_lt (pow_pos' _))]; rfl
theorem byteT_ev (hf : FOK ρ facts) : ∀ {x : T} {n : Int} {j : Nat}, x.ev ρ = some (.i n) → j < 8 → (byteT facts x j).ev ρ = some (.i ((n / 2 ^ (8 * j)) % 256)) := by
  intro x n j hx hj
  fun_induction byteT facts x j generalizing n with
  | case1 a y j ih =>
    obtain ⟨u, m, hu, hm, hz⟩ := or_inv hx
    cases e : fitsK facts .u8 y with
    | false => rw [bif_false]; exact byteD_ev hf hx hj
    | true =>
      rw [bif_true]
      have hr : 0 ≤ m ∧ m ≤ 255 := fitsK_ok e hf hm
      obtain ⟨q, hq, rfl⟩ := shl_inv hu
      rw [zor (by omega) (by omega) (by omega) hr.1 hr.2] at hz
      have hz := (Option.some.inj hz).symm
      cases j with
      | zero =>
        show y.ev ρ = _
        rw [hm, hz]
        congr 2
        show m = (q * 256 % 18446744073709551616 + m) / 1 % 256
        omega
      | succ j =>
        show (byteT facts a j).ev ρ = _
        rw [ih j hq (by omega), hz, byte_step hj hr]
  | case2 x j _ => exact byteD_ev hf hx hj
theorem cv8_ev {t : T} {n : Int} (hf : FOK ρ facts) (ht : t.ev ρ = some (.i n)) : (cv8 facts t).ev ρ = some (.i (IntKind.u8.wrap n)) := by
  unfold cv8
  split
  · rename_i x c
    cases e1 : Nat.beq (Nat.mod c 8) 0 && Nat.blt c 64 with
    | false => rw [bif_false]; exact cvD_ev hf ht
    | true =>
      rw [bif_true, natK_eq]
      rw [Bool.and_eq_true, blt_iff, beq_iff, decide_eq_true_eq, decide_eq_true_eq] at e1
      have h0 : c % 8 = 0 := e1.1
      obtain ⟨m, hm, rfl⟩ := shr_inv ht e1.2
      show (byteT facts x (c / 8)).ev ρ = _
      rw [byteT_ev hf hm (by omega), wrap8, Int.fdiv_eq_ediv_of_nonneg _ (Int.le_of_lt (pow_pos' _)), show 8 * (c / 8) = c by omega]
  · rw [byteT_ev hf ht (by decide), wrap8]
    show some (D.i (n / 1 % 256)) = _
    rw [Int.ediv_one]
  · exact cvD_ev hf ht
theorem cvT_ev {k : IntKind} {t : T} {n : Int} (hf : FOK ρ facts) (ht : t.ev ρ = some (.i n)) : (cvT facts k t).ev ρ = some (.i (k.wrap n)) := by
  unfold cvT
  cases e : kbeq k .u8 with
  | false => rw [bif_false]; exact cvD_ev hf ht
  | true =>
    rw [bif_true]
    obtain rfl := kbeq_eq e
    split
    · rename_i j x y
      cases e1 : T.beq y (.z (.ofNat 256)) with
      | false => rw [bif_false]; exact cvD_ev hf ht
      | true =>
        rw [bif_true]
        have := T.beq_eq e1
        subst this
        cases hx : x.ev ρ with
        | none => simp [T.ev, hx] at ht
        | some p =>
          cases p with
          | i v =>
            simp only [T.ev, hx, zar] at ht
            rw [if_neg (by decide)] at ht
            have ht : v.tmod 256 = n := by simpa using ht
            rw [cv8_ev hf hx, wrap8, wrap8, ← ht]
            congr 2
            have := Int.tmod_eq_emod (a := v) (b := 256)
            split at this
            · omega
            · have e : ((256 : Int).natAbs : Int) = 256 := rfl
              omega
          | b _ => simp [T.ev, hx] at ht
          | a _ => simp [T.ev, hx] at ht
    · exact cv8_ev hf ht
theorem nrmU_ev {op : BinOp} {x y : T} {n m c : Int} (hf : FOK ρ facts) (hx : x.ev ρ = some (.i n)) (hy : y.ev ρ = some (.i m)) (hwx : (Lit.int .u64 n).wf = true) (hwy : isShift op = false → (Lit.int .u64 m).wf = true) (h : zar op .u64 n m = some c) : (nrmU facts op x y).ev ρ = some (.i c) := by
  have hbin : (T.bin op .u64 x y).ev ρ = some (.i c) := by simp only [T.ev, hx, hy, h]; rfl
  have hnn : 0 ≤ n ∧ n ≤ 18446744073709551615 := wf_range hwx
  unfold nrmU
  split
  · cases e : T.beq y (.z (.ofNat 256)) with
    | false => rw [bif_false]; exact hbin
    | true =>
      rw [bif_true, shrT_ev hf hx (by decide)]
      rw [T.beq_eq e] at hy
      have hm : m = 256 := by simpa [T.ev] using hy.symm
      subst hm
      have h : (if (256 : Int) = 0 then none else some (IntKind.u64.wrap (n.tdiv 256))) = some c := h
      rw [if_neg (by decide)] at h
      rw [← Option.some.inj h, wrapU, Int.fdiv_eq_ediv_of_nonneg _ (by decide), Int.tdiv_eq_ediv_of_nonneg (by omega)]
      congr 2
      show n / 256 = _
      omega
  · cases e : T.beq y (.z (.ofNat 256)) with
    | false => rw [bif_false]; exact hbin
    | true =>
      rw [bif_true, shlT_ev hx]
      rw [T.beq_eq e] at hy
      have hm : m = 256 := by simpa [T.ev] using hy.symm
      subst hm
      exact congrArg (some ∘ D.i) (Option.some.inj h)
  · cases e : T.beq y (.z (.ofNat 8)) with
    | false => rw [bif_false]; exact hbin
    | true =>
      rw [bif_true, shlT_ev hx]
      rw [T.beq_eq e] at hy
      have hm : m = 8 := by simpa [T.ev] using hy.symm
      subst hm
      have h : (if (8 : Int) < 0 then none else some (IntKind.u64.wrap (n * 256))) = some c := h
      rw [if_neg (by decide)] at h
      exact congrArg (some ∘ D.i) (Option.some.inj h)
  · split
    · rename_i d
      cases e : Nat.blt d 64 with
      | false => rw [bif_false]; exact hbin
      | true =>
        rw [bif_true]
        rw [blt_iff, decide_eq_true_eq] at e
        rw [shrT_ev hf hx e]
        rw [shr_ev hx e] at hbin
        exact hbin
    · exact hbin
  · exact orT_ev (.inl rfl) hf hx hy (hwy rfl) h
  · exact orT_ev (.inr rfl) hf hx hy (hwy rfl) h
  · exact hbin
theorem ubK_ok {k : IntKind} {t : T} {n : Int} (h : ubK facts k t = true) (hf : FOK ρ facts) (ht : t.ev ρ = some (.i n)) : 0 ≤ n ∧ n * 256 + 255 ≤ maxOf k := by
  unfold ubK at h
  cases hu : ubS facts t with
  | none => rw [hu] at h; cases h
  | some g =>
    rw [hu] at h
    have h : (!ilt (maxOf k) (((g * 256 + 255 : Nat)) : Int)) = true := h
    rw [ilt_eq] at h
    have := ubS_ok hf hu ht
    simp at h
    omega
theorem max_le (k : IntKind) : maxOf k ≤ 18446744073709551615 := by cases k <;> decide
theorem wrap_fit {k : IntKind} {n : Int} (h0 : 0 ≤ n) (h : n ≤ maxOf k) : k.wrap n = n := wf_wrap (wf_of ⟨by have := min_le0 k; omega, h⟩)
theorem joinT_ev {a x y : T} {n m : Int} (hxe : x = .bin .shl .u64 a (.z (.ofNat 8))) (hf : FOK ρ facts) (hx : x.ev ρ = some (.i n)) (hy : y.ev ρ = some (.i m)) (hr : 0 ≤ m ∧ m ≤ 255) : (joinT facts a x y).ev ρ = some (.i (n + m)) := by
  subst hxe
  obtain ⟨q, hq, hn⟩ := shl_inv hx
  have hn0 : 0 ≤ n ∧ n ≤ 18446744073709551615 ∧ n % 256 = 0 := by omega
  have hz := zor hn0.1 hn0.2.1 hn0.2.2 hr.1 hr.2
  have hor : (T.bin .or .u64 (.bin .shl .u64 a (.z (.ofNat 8))) y).ev ρ = some (.i (n + m)) := by
    unfold T.ev
    rw [hx, hy]
    simp only [hz]; rfl
  unfold joinT
  split
  · rename_i b
    cases e2 : T.beq a (shrC b 8) && fitsK facts .u64 b with
    | false => rw [bif_false]; exact hor
    | true =>
      rw [bif_true]
      rw [Bool.and_eq_true] at e2
      cases hb : b.ev ρ with
      | none => simp [T.ev, hb] at hy
      | some p =>
        cases p with
        | i v =>
          have hv : 0 ≤ v ∧ v ≤ 18446744073709551615 := fitsK_ok e2.2 hf hb
          rw [T.beq_eq e2.1, shrC_ev hb (by decide)] at hq
          have hq := (D.i.inj (Option.some.inj hq)).symm
          have hm8 : m = v % 256 := by
            simp only [T.ev, hb] at hy
            have := (D.i.inj (Option.some.inj hy)).symm
            rw [this]; simp [IntKind.wrap, IntKind.signed, IntKind.bits]
          have hq : q = v / 256 := by
            rw [hq, Int.fdiv_eq_ediv_of_nonneg _ (by decide)]; rfl
          congr 2
          omega
        | b _ => simp [T.ev, hb] at hy
        | a _ => simp [T.ev, hb] at hy
  · exact hor
theorem nrmN_ev {op : BinOp} {k : IntKind} (hk : isN k = true) {x y : T} {n m c : Int} (hf : FOK ρ facts) (hx : x.ev ρ = some (.i n)) (hy : y.ev ρ = some (.i m)) (hwx : (Lit.int k n).wf = true) (h : zar op k n m = some c) : (nrmN facts op k x y).ev ρ = some (.i c) := by
  have hbin : (T.bin op k x y).ev ρ = some (.i c) := by simp only [T.ev, hx, hy, h]; rfl
  have hnn := wf_range hwx
  have h0 : 0 ≤ n := by
    cases k <;> first | (cases hk; done) | exact hnn.1
  have hmx := max_le k
  unfold nrmN
  split
  · cases e : T.beq y (.z (.ofNat 256)) with
    | false => rw [bif_false]; exact hbin
    | true =>
      rw [bif_true, shrT_ev hf hx (by decide)]
      rw [T.beq_eq e] at hy
      have hm : m = 256 := by simpa [T.ev] using hy.symm
      subst hm
      have h : (if (256 : Int) = 0 then none else some (k.wrap (n.tdiv 256))) = some c := h
      rw [if_neg (by decide)] at h
      rw [← Option.some.inj h, Int.fdiv_eq_ediv_of_nonneg _ (by decide), Int.tdiv_eq_ediv_of_nonneg h0, wrap_fit (by omega) (by omega)]
      rfl
  · cases e : T.beq y (.z (.ofNat 256)) && ubK facts k x with
    | false => rw [bif_false]; exact hbin
    | true =>
      rw [bif_true, shlT_ev hx]
      rw [Bool.and_eq_true] at e
      have hu := ubK_ok e.2 hf hx
      rw [T.beq_eq e.1] at hy
      have hm : m = 256 := by simpa [T.ev] using hy.symm
      subst hm
      have h : k.wrap (n * 256) = c := Option.some.inj h
      rw [← h, wrap_fit (k := k) (by omega) (by omega), wrapU]
      congr 2
      omega
  · unfold addN
    split
    · rename_i a
      cases e : ubK facts k a && fitsK facts .u8 y with
      | false => rw [bif_false]; exact hbin
      | true =>
        rw [bif_true]
        rw [Bool.and_eq_true] at e
        have hr : 0 ≤ m ∧ m ≤ 255 := fitsK_ok e.2 hf hy
        obtain ⟨q, hq, hn⟩ := shl_inv hx
        have hu := ubK_ok e.1 hf hq
        rw [joinT_ev rfl hf hx hy hr]
        have h : k.wrap (n + m) = c := Option.some.inj h
        rw [← h, wrap_fit (by omega) (by omega)]
    · exact hbin
  · split
    · rename_i d
      cases e : Nat.blt d (bitsOf k) with
      | false => rw [bif_false]; exact hbin
      | true =>
        rw [bif_true]
        rw [blt_iff, decide_eq_true_eq] at e
        have e64 : d < 64 := by cases k <;> first | (cases hk; done) | (simp only [bitsOf] at e; omega)
        rw [shrT_ev hf hx e64]
        have hm : m = (d : Int) := by simpa [T.ev] using hy.symm
        subst hm
        simp only [zar] at h
        rw [if_neg (by omega)] at h
        have hb : k.bits = bitsOf k := by cases k <;> first | (cases hk; done) | rfl
        rw [← Option.some.inj h, Int.toNat_natCast, hb, show min d (bitsOf k) = d by omega]
    · exact hbin
  · exact hbin
theorem nrm_ev {op : BinOp} {k : IntKind} {x y : T} {n m c : Int} (hf : FOK ρ facts) (hx : x.ev ρ = some (.i n)) (hy : y.ev ρ = some (.i m)) (hwx : (Lit.int k n).wf = true) (hwy : isShift op = false → (Lit.int k m).wf = true) (h : zar op k n m = some c) : (nrm facts op k x y).ev ρ = some (.i c) := by
  unfold nrm
  cases e : kbeq k .u64 with
  | false =>
    rw [bif_false]
    cases e2 : isN k with
    | false => rw [bif_false]; simp only [T.ev, hx, hy, h]; rfl
    | true => rw [bif_true]; exact nrmN_ev e2 hf hx hy hwx h
  | true =>
    rw [bif_true]
    obtain rfl := kbeq_eq e
    exact nrmU_ev hf hx hy hwx hwy h
end
end Go.Sy
/-! Operators. -/
namespace Go.Sy
section
variable {X : Tabs} {K : Nat → Prop} {w0 : World} {E : Env} {st : St} {w : World} {Θ : Pred} {R : List Back} {tm : Tm} {k : Kt} {o : Oper}

/-- Whenever it comes, and whatever it is that x and y stand for. -/
def Bin2 (P : Program) (E : Env) (v p q : AV) (run : Value → Value → Sem Value) : Prop :=
  ∀ E' x y, E.Le E' → p.den E' = some x → q.den E' = some y → ∃ z, v.den E' = some z ∧ ∀ w, (run x y).run P w = .ok z w
def Bin2Out (P : Program) (Θ : Pred) (R : List Back) (E : Env) (st : St) (k : Kt) (p q : AV) (run : Value → Value → Sem Value) : Prop :=
  ∃ v f, (k v (st.withF f)).holds Θ E.va R ∧ FOK E.va f ∧ Bin2 P E v p q run
theorem Bin2Out.now {P : Program} {p q v : AV} {run : Value → Value → Sem Value} (hk : (k v st).holds Θ E.va R) (hf : FOK E.va st.facts) (h : Bin2 P E v p q run) : Bin2Out P Θ R E st k p q run :=
  ⟨v, st.facts, by rw [withF_self]; exact hk, hf, h⟩

theorem zcm_some {op : BinOp} (h : isCmp op = true) (n m : Int) : ∃ r, zcm op n m = some r := by cases op <;> first | (cases h; done) | exact ⟨_, rfl⟩
theorem zar_some {op : BinOp} (h : isCmp op = false) {k : IntKind} {n m : Int} (hd : isDiv op = true → m ≠ 0) (hs : isShift op = true → 0 ≤ m) : ∃ c, zar op k n m = some c := by
  cases hz : zar op k n m with
  | some c => exact ⟨c, rfl⟩
  | none =>
    cases op <;> first | (cases h; done) | (cases hz; done) | skip
    · simp only [zar] at hz; rw [if_neg (hd rfl)] at hz; cases hz
    · simp only [zar] at hz; rw [if_neg (hd rfl)] at hz; cases hz
    · have := hs rfl; simp only [zar] at hz; rw [if_neg (by omega)] at hz; cases hz
    · have := hs rfl; simp only [zar] at hz; rw [if_neg (by omega)] at hz; cases hz
theorem bin_ev {ρ : Va} {op : BinOp} {k : IntKind} {x y : T} {n m c : Int} (hx : x.ev ρ = some (.i n)) (hy : y.ev ρ = some (.i m)) (h : zar op k n m = some c) : (T.bin op k x y).ev ρ = some (.i c) := by
  simp only [T.ev, hx, hy, h]; rfl
theorem guard_int (P : Program) (op : BinOp) (t : TypeId) (xo yo : Operand) (j k : IntKind) (n m : Int) (w : World) : (eqGuard op t xo yo (.int j n) (.int k m)).run P w = .ok () w := by
  unfold eqGuard
  cases op <;> simp
/-- The operator, its guard ahead of it. -/
def opRun (op : BinOp) (t : TypeId) (xo yo : Operand) (x y : Value) : Sem Value := do eqGuard op t xo yo x y; Go.binOp op t x y

theorem binT_inv {P : Program} {op : BinOp} {j kd : IntKind} {x y : T} {p q : AV} (h : (binT op j x kd y st k).holds Θ E.va R) (hf : FOK E.va st.facts) (hp : toT p = some (j, x)) (hq : toT q = some (kd, y)) (hop : okv E p) (hoq : okv E q) (t : TypeId) (xo yo : Operand) :
    Bin2Out P Θ R E st k p q (opRun op t xo yo) := by
  obtain ⟨n, hx, hxw, hxa⟩ := toT_inv hp hop
  obtain ⟨m, hy, hyw, hya⟩ := toT_inv hq hoq
  obtain ⟨hk, h⟩ := vif_inv h
  have hk : isShift op = true ∨ j = kd := by
    rcases Bool.or_eq_true_iff.1 hk with h1 | h1
    · exact .inl h1
    · exact .inr (kbeq_eq h1)
  have cmpcase : ∀ {v : AV} {r : Bool}, zcm op n m = some r → j = kd → (∀ E', E.Le E' → v.den E' = some (.bool r)) → Bin2 P E v p q (opRun op t xo yo) := by
    intro v r hr hjk hv E' x' y' hE hx' hy'
    subst hjk
    rw [hxa E' x' hE hx', hya E' y' hE hy']
    exact ⟨_, hv E' hE, fun w => by simp only [opRun, Sem.run_bind, guard_int, Result.andThen_ok]; exact zcm_run hr t w⟩
  have arcase : ∀ {c : Int} {f : List T}, zar op j n m = some c → FOK E.va f → Bin2 P E (.sym j (nrm f op j x y)) p q (opRun op t xo yo) := by
    intro c f hc hff E' x' y' hE hx' hy'
    rw [hxa E' x' hE hx', hya E' y' hE hy']
    exact ⟨_, den_sym_of (ev_mono hE.va (nrm_ev hff hx hy hxw (fun hs => by rw [hk.resolve_left (by rw [hs]; decide)]; exact hyw) hc)) (zar_wf hc hxw), fun w => by simp only [opRun, Sem.run_bind, guard_int, Result.andThen_ok]; exact zar_run hc hk t w⟩
  rcases bif_holds h with ⟨hcmp, h⟩ | ⟨hcmp, h⟩
  · obtain ⟨r, hr⟩ := zcm_some hcmp n m
    have hjk : j = kd := hk.resolve_left (by cases op <;> first | (cases hcmp; done) | decide)
    have hev := mkCmp_ev (op := op) hx hy
    rw [hr] at hev
    cases hd : dec st.facts (mkCmp op x y) with
    | none =>
      rw [hd] at h
      exact .now h hf (cmpcase hr hjk fun E' hE => den_cnd_of (ev_mono hE.va hev))
    | some b =>
      rw [hd] at h
      have := dec_sound hf hd hev
      subst this
      exact .now h hf (cmpcase hr hjk fun E' _ => rfl)
  · rcases bif_holds h with ⟨hdiv, h⟩ | ⟨hdiv, h⟩
    · obtain ⟨h1, f, hf', h⟩ := needK_inv h hf (r := decide (m ≠ 0)) (by rw [cmp_ev hy rfl]; rfl)
      obtain ⟨c, hc⟩ := zar_some hcmp (k := j) (n := n) (m := m) (fun _ => by simpa using h1) (fun hs => by cases op <;> first | (cases hs; done) | (cases hdiv; done))
      exact ⟨_, f, h, hf', arcase hc (by rw [withF_facts]; exact hf')⟩
    · rcases bif_holds h with ⟨hsh, h⟩ | ⟨hsh, h⟩
      · obtain ⟨h1, f, hf', h⟩ := needK_inv h hf (r := decide (0 ≤ m)) (by rw [cmp_ev hy rfl]; rfl)
        obtain ⟨c, hc⟩ := zar_some hcmp (k := j) (n := n) (m := m) (fun hd => by rw [hdiv] at hd; cases hd) (fun _ => by simpa using h1)
        exact ⟨_, f, h, hf', arcase hc (by rw [withF_facts]; exact hf')⟩
      · obtain ⟨c, hc⟩ := zar_some hcmp (k := j) (n := n) (m := m) (fun hd => by rw [hdiv] at hd; cases hd) (fun hs => by rw [hsh] at hs; cases hs)
        exact .now h hf (arcase hc hf)

theorem binU_den {P : Program} {op : BinOp} {j kd : IntKind} {a b : Nat} {v : AV} (h : binU op j a b = some v) (hk : isShift op = true ∨ j = kd) (ha : a < modOf j) (hb : b < modOf kd) (hs : isShift op = true → sgn kd b = (b : Int)) (t : TypeId) (xo yo : Operand) :
    Bin2 P E v (.int j a) (.int kd b) (opRun op t xo yo) := by
  intro E' x y _ hx hy
  rw [(den_int hx).2, (den_int hy).2]
  unfold binU at h
  cases hc : isCmp op with
  | true =>
    rw [hc, bif_true] at h
    obtain ⟨r, hr, h⟩ := obind_inv h
    cases h
    obtain rfl := hk.resolve_left (by cases op <;> first | (cases hc; done) | decide)
    exact ⟨_, rfl, fun w => by simp only [opRun, Sem.run_bind, guard_int, Result.andThen_ok]; exact zcm_run (cmU_zcm hr ha hb) t w⟩
  | false =>
    rw [hc, bif_false] at h
    obtain ⟨c, hr, h⟩ := obind_inv h
    cases h
    obtain ⟨h1, h2⟩ := arU_zar (y := sgn kd b) hr ha (fun hns => by
      obtain rfl := hk.resolve_left (by rw [hns]; decide)
      exact ⟨hb, rfl⟩) hs
    exact ⟨_, den_int_of h1, fun w => by simp only [opRun, Sem.run_bind, guard_int, Result.andThen_ok]; exact zar_run h2 hk t w⟩

theorem binI_inv {P : Program} {op : BinOp} {j : IntKind} {a : Nat} {q : AV} (h : (binI op j a st k q).holds Θ E.va R) (hf : FOK E.va st.facts) (hop : okv E (.int j a)) (hoq : okv E q) (t : TypeId) (xo yo : Operand) :
    Bin2Out P Θ R E st k (.int j a) q (opRun op t xo yo) := by
  unfold binI at h
  split at h
  · rename_i kd b
    obtain ⟨x, hx⟩ := hop
    have ha := (den_int hx).1
    obtain ⟨y, hy⟩ := id hoq
    have hb := (den_int hy).1
    obtain ⟨hk, h⟩ := vif_inv h
    have hk : isShift op = true ∨ j = kd := by
      rcases Bool.or_eq_true_iff.1 hk with h1 | h1
      · exact .inl h1
      · exact .inr (kbeq_eq h1)
    rcases bif_holds h with ⟨hs, h⟩ | ⟨hs, h⟩
    · obtain ⟨b', hb', h2⟩ := vbind_inv h
      obtain ⟨kd', e1, e2, _⟩ := natOf_inv hb' hoq
      cases e1
      obtain ⟨v, hv, h3⟩ := outK_inv h2
      exact .now h3 hf (binU_den hv hk ha hb (fun _ => e2) t xo yo)
    · obtain ⟨v, hv, h⟩ := outK_inv h
      exact .now h hf (binU_den hv hk ha hb (fun hs' => by rw [hs] at hs'; cases hs') t xo yo)
  · exact binT_inv h hf rfl rfl hop hoq t xo yo
  · exact h.elim
theorem binS_inv {P : Program} {op : BinOp} {j : IntKind} {x : T} {q : AV} (h : (binS op j x st k q).holds Θ E.va R) (hf : FOK E.va st.facts) (hop : okv E (.sym j x)) (hoq : okv E q) (t : TypeId) (xo yo : Operand) :
    Bin2Out P Θ R E st k (.sym j x) q (opRun op t xo yo) := by
  unfold binS at h
  split at h
  · exact binT_inv h hf rfl rfl hop hoq t xo yo
  · exact binT_inv h hf rfl rfl hop hoq t xo yo
  · exact h.elim

/-! ### The same or not -/
theorem isNo_eq {α : Type} (o : Option α) : isNo o = o.isNone := by cases o <;> rfl
theorem den_ptr' {x : Option AAddr} {y : Value} (h : (AV.ptr x).den E = some y) : ∃ ad, y = .pointer ad ∧ ad.isNone = x.isNone := by
  cases x with
  | none => simp only [AV.den, Option.some.injEq] at h; exact ⟨none, h.symm, rfl⟩
  | some x => obtain ⟨ad, _, h2⟩ := den_ptr h; exact ⟨some ad, h2, rfl⟩
theorem den_slice_inv {x : Option AAddr} {n : Nat} {c : Cap} {y : Value} (h : (AV.slice x n c).den E = some y) :
    (x = none ∧ n = 0 ∧ c = .k 0 ∧ y = .slice none 0 0) ∨ ∃ p ad cp, x = some p ∧ aden E p = some ad ∧ cden E c = some cp ∧ n ≤ cp ∧ y = .slice (some ad) n cp := by
  cases x with
  | none =>
    cases c with
    | k c =>
      simp only [AV.den] at h
      split at h
      · rename_i e; cases h; exact .inl ⟨rfl, e.1, by rw [e.2], rfl⟩
      · cases h
    | u _ _ => cases h
    | t _ => cases h
  | some p =>
    simp only [AV.den] at h
    split at h
    · rename_i ad cp h1 h2
      split at h
      · rename_i h3; cases h; exact .inr ⟨p, ad, cp, rfl, h1, h2, h3, rfl⟩
      · cases h
    · cases h
theorem den_slice' {x : Option AAddr} {n : Nat} {c : Cap} {y : Value} (h : (AV.slice x n c).den E = some y) : ∃ ad cp, y = .slice ad n cp ∧ ad.isNone = x.isNone := by
  rcases den_slice_inv h with ⟨rfl, rfl, _, rfl⟩ | ⟨p, ad, cp, rfl, _, _, _, rfl⟩
  · exact ⟨none, _, rfl, rfl⟩
  · exact ⟨some ad, _, rfl, rfl⟩
theorem den_sl0 {p : AAddr} {i n d : Nat} {y : Value} (h : (AV.sl0 p i n d).den E = some y) : ∃ x c, aden E p = some x ∧ E.caps[i]? = some c ∧ n ≤ c ∧ y = .slice (some (if c = n then x else x.add d)) 0 (c - n) := by
  simp only [AV.den] at h
  split at h
  · rename_i x c h1 h2
    split at h
    · rename_i h3; cases h; exact ⟨x, c, h1, h2, h3, rfl⟩
    · cases h
  · cases h
theorem den_map' {x : Option Nat} {y : Value} (h : (AV.map x).den E = some y) : (x = none ∧ y = .map none) ∨ ∃ r id, x = some r ∧ E.m[r]? = some (some (id, 0)) ∧ y = .map (some id) := by
  cases x with
  | none => simp only [AV.den, Option.some.injEq] at h; exact .inl ⟨rfl, h.symm⟩
  | some r =>
    simp only [AV.den] at h
    split at h
    · rename_i id hid; cases h; exact .inr ⟨r, id, rfl, hid, rfl⟩
    · cases h
theorem den_func' {f : Fn} {l r : List AV} {y : Value} (h : (AV.func f l r).den E = some y) : ∃ xs ys, denL E l = some xs ∧ denL E r = some ys ∧ y = .func f xs.toArray ys.toArray := by
  simp only [AV.den] at h
  split at h
  · rename_i x z h1 h2; cases h; exact ⟨x, z, h1, h2, rfl⟩
  · cases h
theorem den_yld {l : Nat} {y : Value} (h : (AV.yld l).den E = some y) : ∃ id, E.m[l]? = some (some (id, 0)) ∧ y = .func (.yield id) #[] #[] := by
  simp only [AV.den] at h
  split at h
  · rename_i id hid; cases h; exact ⟨id, hid, rfl⟩
  · cases h
theorem den_iface' {t : TypeId} {v : AV} {y : Value} (h : (AV.iface t v).den E = some y) : ∃ x, v.den E = some x ∧ y = .iface t x := by
  simp only [AV.den, Option.map_eq_some_iff] at h
  obtain ⟨x, h1, h2⟩ := h
  exact ⟨x, h1, h2.symm⟩

def okShape : Value → Bool
  | .int .. | .float .. | .complex .. | .string _ | .agg _ => false
  | _ => true
theorem eqD_shape {c : Bool} {d : TypeDesc} {x y : AV} {b : Bool} (h : eqD c d x y = some b) {p q : Value} (hp : x.den E = some p) (hq : y.den E = some q) :
    okShape p = true ∧ (p = .nilIface → q = .nilIface → c = true) := by
  have sl : ∀ {x : Option AAddr} {n : Nat} {c' : Cap} {p q : Value}, (AV.slice x n c').den E = some p → okShape p = true ∧ (p = .nilIface → q = .nilIface → c = true) := by
    intro x n c' p q hp
    obtain ⟨a1, c1, rfl, h1⟩ := den_slice' hp; exact ⟨rfl, fun h => by cases h⟩
  unfold eqD at h
  split at h
  · split at h
    · simp only [AV.den, Option.some.injEq] at hp; subst hp; exact ⟨rfl, fun h => by cases h⟩
    · obtain ⟨ad, _, rfl⟩ := den_ptr hp; exact ⟨rfl, fun h => by cases h⟩
    · cases h
  · split at h
    · exact sl hp
    · exact sl hp
    · obtain ⟨_, _, _, _, _, rfl⟩ := den_sl0 hp; exact ⟨rfl, fun h => by cases h⟩
    · exact sl hp
    · cases h
  · split at h
    · rcases den_map' hp with ⟨_, rfl⟩ | ⟨_, _, _, _, rfl⟩ <;> exact ⟨rfl, fun h => by cases h⟩
    · rcases den_map' hp with ⟨_, rfl⟩ | ⟨_, _, _, _, rfl⟩ <;> exact ⟨rfl, fun h => by cases h⟩
    · cases h
  · split at h
    · simp only [AV.den, Option.some.injEq] at hp; subst hp; exact ⟨rfl, fun h => by cases h⟩
    · simp only [AV.den, Option.some.injEq] at hp; subst hp; exact ⟨rfl, fun h => by cases h⟩
    · obtain ⟨_, _, _, _, rfl⟩ := den_func' hp; exact ⟨rfl, fun h => by cases h⟩
    · simp only [AV.den, Option.some.injEq] at hp; subst hp; exact ⟨rfl, fun h => by cases h⟩
    · obtain ⟨_, _, rfl⟩ := den_yld hp; exact ⟨rfl, fun h => by cases h⟩
    · cases h
  · split at h
    · obtain ⟨hc, _⟩ := bif_some h
      simp only [AV.den, Option.some.injEq] at hp; subst hp; exact ⟨rfl, fun _ _ => hc⟩
    · simp only [AV.den, Option.some.injEq] at hp; subst hp
      obtain ⟨xs, _, rfl⟩ := den_iface' hq
      exact ⟨rfl, fun _ h => by cases h⟩
    · obtain ⟨xs, _, rfl⟩ := den_iface' hp; exact ⟨rfl, fun h => by cases h⟩
    · cases h
  · cases h
theorem eqD_sound {P : Program} {c : Bool} {d : TypeDesc} {x y : AV} {b : Bool} (h : eqD c d x y = some b) {t : TypeId} (ht : P.underlying t = some d) {p q : Value} (hp : x.den E = some p) (hq : y.den E = some q) (n : Nat) (w : World) :
    (Op.equalIn (n + 1) t p q).run P w = .ok b w := by
  have hu := run_underlying ht w
  unfold eqD at h
  split at h
  · split at h
    · cases h
      simp only [AV.den, Option.some.injEq] at hp; subst hp
      obtain ⟨ad, rfl, h2⟩ := den_ptr' hq
      simp [Op.equalIn, hu, isNo_eq, h2]
    · cases h
      obtain ⟨ad, _, rfl⟩ := den_ptr hp
      simp only [AV.den, Option.some.injEq] at hq; subst hq
      simp [Op.equalIn, hu]
    · cases h
  · split at h
    · cases h
      obtain ⟨a1, c1, rfl, h1⟩ := den_slice' hp
      obtain ⟨ad, c2, rfl, h2⟩ := den_slice' hq
      cases a1 with
      | some _ => cases h1
      | none => simp [Op.equalIn, hu, isNo_eq, h2]
    · cases h
      obtain ⟨a1, c1, rfl, h1⟩ := den_slice' hp
      obtain ⟨ad, c2, rfl, h2⟩ := den_slice' hq
      cases a1 with
      | none => cases h1
      | some _ => cases ad with
        | some _ => cases h2
        | none => simp [Op.equalIn, hu]
    · cases h
      obtain ⟨_, _, _, _, _, rfl⟩ := den_sl0 hp
      obtain ⟨ad, c2, rfl, h2⟩ := den_slice' hq
      cases ad with
      | some _ => cases h2
      | none => simp [Op.equalIn, hu]
    · cases h
      obtain ⟨_, _, _, _, _, rfl⟩ := den_sl0 hq
      obtain ⟨ad, c2, rfl, h2⟩ := den_slice' hp
      cases ad with
      | some _ => cases h2
      | none => simp [Op.equalIn, hu]
    · cases h
  · split at h
    · cases h
      simp only [AV.den, Option.some.injEq] at hp; subst hp
      rcases den_map' hq with ⟨rfl, rfl⟩ | ⟨_, _, rfl, _, rfl⟩ <;> simp [Op.equalIn, hu, isNo_eq]
    · cases h
      simp only [AV.den, Option.some.injEq] at hq; subst hq
      rcases den_map' hp with ⟨e, rfl⟩ | ⟨_, _, e, _, rfl⟩
      · cases e
      · simp [Op.equalIn, hu]
    · cases h
  · split at h
    · cases h
      simp only [AV.den, Option.some.injEq] at hp hq; subst hp hq
      simp [Op.equalIn, hu]
    · cases h
      simp only [AV.den, Option.some.injEq] at hp; subst hp
      obtain ⟨xs, ys, _, _, rfl⟩ := den_func' hq
      simp [Op.equalIn, hu]
    · cases h
      simp only [AV.den, Option.some.injEq] at hq; subst hq
      obtain ⟨xs, ys, _, _, rfl⟩ := den_func' hp
      simp [Op.equalIn, hu]
    · cases h
      simp only [AV.den, Option.some.injEq] at hp; subst hp
      obtain ⟨_, _, rfl⟩ := den_yld hq
      simp [Op.equalIn, hu]
    · cases h
      simp only [AV.den, Option.some.injEq] at hq; subst hq
      obtain ⟨_, _, rfl⟩ := den_yld hp
      simp [Op.equalIn, hu]
    · cases h
  · split at h
    · obtain ⟨_, h⟩ := bif_some h
      cases h
      simp only [AV.den, Option.some.injEq] at hp hq; subst hp hq
      simp [Op.equalIn, hu]
    · cases h
      simp only [AV.den, Option.some.injEq] at hp; subst hp
      obtain ⟨xs, _, rfl⟩ := den_iface' hq
      simp [Op.equalIn, hu]
    · cases h
      simp only [AV.den, Option.some.injEq] at hq; subst hq
      obtain ⟨xs, _, rfl⟩ := den_iface' hp
      simp [Op.equalIn, hu]
    · cases h
  · cases h
theorem binOp_eql (t : TypeId) {p : Value} (q : Value) (h : okShape p = true) : Go.binOp .eql t p q = (do pure (.bool (← Op.equal t p q))) := by
  cases p <;> first | (cases h; done) | (cases q <;> rfl)
theorem binOp_neq (t : TypeId) {p : Value} (q : Value) (h : okShape p = true) : Go.binOp .neq t p q = (do pure (.bool (!(← Op.equal t p q)))) := by
  cases p <;> first | (cases h; done) | (cases q <;> rfl)
theorem eqGuard_ok {P : Program} (op : BinOp) (t : TypeId) (x y : Operand) {p q : Value} (h : okShape p = true) (hn : p = .nilIface → q = .nilIface → (isConst x || isConst y) = true) (w : World) :
    (eqGuard op t x y p q).run P w = .ok () w := by
  unfold eqGuard
  cases p <;> cases q <;> first | (cases h; done) | (cases op <;> simp; done) | skip
  have := hn rfl rfl
  cases x <;> cases y <;> first | (simp [isConst] at this; done) | (cases op <;> simp)
/-- The two operators that ask for no order. -/
theorem binFn_run {P : Program} {op : BinOp} {r : Bool} {v : AV} (h : binFn op r = some v) {t : TypeId} {p q : Value} {w : World} (hsh : okShape p = true ∨ ∃ c, p = .agg c) (heq : (Op.equal t p q).run P w = .ok r w) :
    ∃ b, v = .bool b ∧ (Go.binOp op t p q).run P w = .ok (.bool b) w := by
  have e1 : Go.binOp .eql t p q = (do pure (.bool (← Op.equal t p q))) := by
    rcases hsh with h | ⟨c, rfl⟩
    · exact binOp_eql t q h
    · cases q <;> rfl
  have e2 : Go.binOp .neq t p q = (do pure (.bool (!(← Op.equal t p q)))) := by
    rcases hsh with h | ⟨c, rfl⟩
    · exact binOp_neq t q h
    · cases q <;> rfl
  unfold binFn at h
  split at h
  · cases h; exact ⟨_, rfl, by rw [e1]; simp [heq]⟩
  · cases h; exact ⟨_, rfl, by rw [e2]; simp [heq]⟩
  · cases h
end
end Go.Sy
/-! Operators: structs, arrays, texts, truths; all of them. -/
namespace Go.Sy
section
variable {X : Tabs} {K : Nat → Prop} {w0 : World} {E : Env} {st : St} {w : World} {Θ : Pred} {R : List Back} {tm : Tm} {k : Kt} {o : Oper}

/-- What a cell is as a literal. -/
def litRel (ρ : Va) (v : AV) (l : Lit) : Prop := match v, l with
  | .bool a, .bool b => a = b
  | .cnd t, .bool b => t.ev ρ = some (.b b)
  | .int k u, .int j n => k = j ∧ n = sgn k u ∧ u < modOf k
  | .sym k t, .int j n => k = j ∧ t.ev ρ = some (.i n)
  | .str _ s, .string l => l = s.map UInt8.ofNat ∧ ∀ c ∈ s, c < 256
  | _, _ => False
def litRels (ρ : Va) : List AV → List Lit → Prop
  | [], [] => True
  | a :: l, b :: m => litRel ρ a b ∧ litRels ρ l m
  | _, _ => False
theorem litRels_append {ρ : Va} {b : List AV} {y : List Lit} : ∀ {a : List AV} {x : List Lit}, litRels ρ a x → litRels ρ b y → litRels ρ (a ++ b) (x ++ y)
  | [], [], _, h => h
  | _ :: _, _ :: _, h, h' => ⟨h.1, litRels_append h.2 h'⟩
  | [], _ :: _, h, _ => h.elim
  | _ :: _, [], h, _ => h.elim
theorem litRel_mono {ρ ρ' : Va} (h : ρ.Le ρ') {v : AV} {l : Lit} (hr : litRel ρ v l) : litRel ρ' v l := by
  unfold litRel at *
  split at hr
  · exact hr
  · exact ev_mono h hr
  · exact hr
  · exact ⟨hr.1, ev_mono h hr.2⟩
  · exact hr
  · exact hr.elim
theorem litRel_same {ρ : Va} {v : AV} {l m : Lit} (h : litRel ρ v l) (h' : litRel ρ v m) : l = m := by
  cases v <;> cases l <;> simp only [litRel] at h <;> cases m <;> simp only [litRel] at h'
  · rw [← h, ← h']
  · rw [← h.1, ← h'.1, h.2.1, h'.2.1]
  · have := h.2; rw [h'.2] at this; cases this; rw [← h.1, ← h'.1]
  · rw [h] at h'; cases h'; rfl
  · rw [h.1, h'.1]
theorem litRels_same {ρ : Va} : ∀ {v : List AV} {l m : List Lit}, litRels ρ v l → litRels ρ v m → l = m
  | [], [], [], _, _ => rfl
  | _ :: _, _ :: _, _ :: _, h, h' => by rw [litRel_same h.1 h'.1, litRels_same h.2 h'.2]
  | [], _ :: _, _, h, _ => h.elim
  | _ :: _, [], _, h, _ => h.elim
  | [], [], _ :: _, _, h => h.elim
  | _ :: _, _ :: _, [], _, h => h.elim
theorem litRels_mono {ρ ρ' : Va} (h : ρ.Le ρ') : ∀ {v : List AV} {l : List Lit}, litRels ρ v l → litRels ρ' v l
  | [], [], _ => trivial
  | _ :: _, _ :: _, hr => ⟨litRel_mono h hr.1, litRels_mono h hr.2⟩
  | [], _ :: _, h => h.elim
  | _ :: _, [], h => h.elim

theorem kn_inj {j k : IntKind} (h : litK.kn j = litK.kn k) : j = k := by cases j <;> cases k <;> first | rfl | (simp [litK.kn] at h)
theorem kn_lt (k : IntKind) : litK.kn k < 8 := by cases k <;> decide
theorem denL_one1 {v : AV} {xs : List Value} (h : denL E [v] = some xs) : ∃ x, v.den E = some x ∧ xs = [x] := by
  obtain ⟨p, q, hp, hq, rfl⟩ := denL_cons.1 h
  rw [denL_nil.1 hq]; exact ⟨p, hp, rfl⟩
theorem litK_bool {l L : List AV} {xs : List Value} (h : litK 0 l = some L) (hx : denL E l = some xs) : ∃ b, xs = [.bool b] ∧ litRels E.va L [.bool b] := by
  unfold litK at h
  split at h
  · rw [beq_iff] at h; cases h
    obtain ⟨x, h1, rfl⟩ := denL_one1 hx
    cases h1; exact ⟨_, rfl, rfl, trivial⟩
  · rw [beq_iff] at h; cases h
    obtain ⟨x, h1, rfl⟩ := denL_one1 hx
    obtain ⟨b, h2, rfl⟩ := den_cnd h1
    exact ⟨_, rfl, h2, trivial⟩
  · cases h
  · cases h
  · cases h
  · cases h
theorem litK_int {q : IntKind} {l L : List AV} {xs : List Value} (h : litK (Nat.succ (litK.kn q)) l = some L) (hx : denL E l = some xs) : ∃ n, xs = [.int q n] ∧ litRels E.va L [.int q n] ∧ (Lit.int q n).wf = true := by
  unfold litK at h
  split at h
  · cases h
  · cases h
  · obtain ⟨h1, h⟩ := bif_some h
    cases h
    rw [beq_iff, decide_eq_true_eq] at h1
    have := kn_inj (Nat.succ.inj h1); subst this
    obtain ⟨x, h1, rfl⟩ := denL_one1 hx
    obtain ⟨h2, rfl⟩ := den_int h1
    exact ⟨_, rfl, ⟨⟨rfl, rfl, h2⟩, trivial⟩, sgn_wf _ h2⟩
  · obtain ⟨h1, h⟩ := bif_some h
    cases h
    rw [beq_iff, decide_eq_true_eq] at h1
    have := kn_inj (Nat.succ.inj h1); subst this
    obtain ⟨x, h1, rfl⟩ := denL_one1 hx
    obtain ⟨n, h2, h3, rfl⟩ := den_sym h1
    exact ⟨_, rfl, ⟨⟨rfl, h2⟩, trivial⟩, h3⟩
  · obtain ⟨h1, h⟩ := bif_some h
    simp only [Bool.and_eq_true, beq_iff, decide_eq_true_eq] at h1
    have := kn_lt q
    have h3 := h1.1
    rw [natSucc] at h3; omega
  · cases h
theorem litK_str {l L : List AV} {xs : List Value} (h : litK 9 l = some L) (hx : denL E l = some xs) : ∃ s, xs = [.string s] ∧ litRels E.va L [.string s.data.toList] ∧ s.size ≤ maxLen := by
  unfold litK at h
  split at h
  · cases h
  · cases h
  · obtain ⟨h1, h⟩ := bif_some h
    rw [beq_iff, decide_eq_true_eq] at h1
    rename_i kd _ _
    have := kn_lt kd
    rw [natSucc] at h1; omega
  · obtain ⟨h1, h⟩ := bif_some h
    rw [beq_iff, decide_eq_true_eq] at h1
    rename_i kd _ _
    have := kn_lt kd
    rw [natSucc] at h1; omega
  · obtain ⟨h1, h⟩ := bif_some h
    cases h
    simp only [Bool.and_eq_true, ble_iff, decide_eq_true_eq] at h1
    obtain ⟨x, h2, rfl⟩ := denL_one1 hx
    obtain ⟨h3, h4, rfl⟩ := den_str h2
    refine ⟨_, rfl, ⟨⟨rfl, h4⟩, trivial⟩, ?_⟩
    rw [bytesOf_size, ← h3]; have := h1.2; simp [maxLen]; omega
  · cases h
theorem catO_inv {a b : Option (List AV)} {L : List AV} (h : catO a b = some L) : ∃ x y, a = some x ∧ b = some y ∧ L = x ++ y := by
  obtain ⟨x, hx, h⟩ := obind_inv h
  obtain ⟨y, hy, h⟩ := obind_inv h
  cases h
  exact ⟨x, y, hx, hy, rfl⟩
theorem mapM_map_opt {α β γ : Type} (g : α → β) (f : β → Option γ) : ∀ l : List α, (l.map g).mapM f = l.mapM fun x => f (g x)
  | [] => rfl
  | x :: l => by
    simp only [List.map_cons, List.mapM_cons]
    rw [mapM_map_opt g f l]
theorem litsA_sound {ρ : Va} {rec : TypeId → List AV → Option (List AV)} {e : TypeId} {s : Nat} {f : List Value → Option (List Lit)}
    (hrec : ∀ {cs L : List AV} {xs : List Value}, rec e cs = some L → denL E cs = some xs → ∃ M, f xs = some M ∧ litRels ρ L M) :
    ∀ (n : Nat) {cs L : List AV} {xs : List Value}, litsA rec e n s cs = some L → denL E cs = some xs →
      ∃ M, ((List.range n).mapM fun i => f ((xs.drop (i * s)).take s)).map List.flatten = some M ∧ litRels ρ L M
  | 0, cs, L, xs, h, hx => by
    cases h
    exact ⟨[], rfl, trivial⟩
  | n + 1, cs, L, xs, h, hx => by
    change catO (rec e (takeL s cs)) (litsA rec e n s (dropL s cs)) = some L at h
    obtain ⟨u, v, h1, h2, rfl⟩ := catO_inv h
    rw [takeL_eq] at h1
    rw [dropL_eq] at h2
    obtain ⟨M1, g1, r1⟩ := hrec h1 (denL_take s hx)
    obtain ⟨M2, g2, r2⟩ := litsA_sound hrec n h2 (denL_drop s hx)
    simp only [Option.map_eq_some_iff] at g2
    obtain ⟨ls, g2, g3⟩ := g2
    rw [List.range_succ_eq_map, List.mapM_cons, mapM_map_opt]
    have e1 : (fun i => f ((xs.drop ((Nat.succ i) * s)).take s)) = fun i => f (((xs.drop s).drop (i * s)).take s) := by
      funext i
      rw [List.drop_drop, Nat.succ_mul, Nat.add_comm]
    rw [e1, g2]
    exact ⟨M1 ++ M2, by simp [g1, g3], litRels_append r1 r2⟩
theorem litsF_sound {ρ : Va} {size : Tr Nat} {rec : TypeId → List AV → Option (List AV)} {g : TypeId → List Value → Option (List Lit)} {cs : List AV} {xs : List Value} (hx : denL E cs = some xs)
    {cells : TypeId → Nat} (hs : ∀ t s, size.get t = some s → cells t = s) :
    ∀ {fs : List Field} {L : List AV}, (∀ fd ∈ fs, ∀ {cs L : List AV} {xs : List Value}, rec fd.type cs = some L → denL E cs = some xs → ∃ M, g fd.type xs = some M ∧ litRels ρ L M) → litsF size rec cs fs = some L →
      ∃ M, (fs.mapM fun fd => g fd.type ((xs.drop fd.offset).take (cells fd.type))).map List.flatten = some M ∧ litRels ρ L M
  | [], L, _, h => by cases h; exact ⟨[], rfl, trivial⟩
  | fd :: fs, L, hrec, h => by
    change catO (obind (size.get fd.type) fun s => rec fd.type (takeL s (dropL fd.offset cs))) (litsF size rec cs fs) = some L at h
    obtain ⟨u, v, h1, h2, rfl⟩ := catO_inv h
    obtain ⟨s, hsz, h1⟩ := obind_inv h1
    rw [takeL_eq, dropL_eq] at h1
    obtain ⟨M1, g1, r1⟩ := hrec fd (by simp) h1 (denL_take s (denL_drop fd.offset hx))
    obtain ⟨M2, g2, r2⟩ := litsF_sound hx hs (fun x hx => hrec x (List.mem_cons_of_mem _ hx)) h2
    simp only [Option.map_eq_some_iff] at g2
    obtain ⟨ls, g2, g3⟩ := g2
    rw [List.mapM_cons, hs _ _ hsz, g1, g2]
    exact ⟨M1 ++ M2, by simp [g3], litRels_append r1 r2⟩
theorem litsT_sound (hc : CxOK X K w0) : ∀ (d : Nat) {t : TypeId} {cs L : List AV} {xs : List Value}, litsT X.cx d t cs = some L → X.P.keyTypeAt d t = true → denL E cs = some xs → ∃ M, X.P.keyLits d t xs = some M ∧ litRels E.va L M
  | 0, t, cs, L, xs, h, _, _ => by cases h
  | d + 1, t, cs, L, xs, h, hk, hx => by
    change obind (X.cx.und.get t) (fun dd => obind (X.cx.size.get t) fun len => litsD X.cx (litsT X.cx d) len cs dd) = some L at h
    obtain ⟨dd, hd, h⟩ := obind_inv h
    obtain ⟨len, hlen, h⟩ := obind_inv h
    have hu := hc.und t dd hd
    have hcells : ∀ t s, X.cx.size.get t = some s → X.P.cellsOf t = s := fun t s hs => by
      obtain ⟨i, hi, hn⟩ := hc.size t s hs
      simp [Program.cellsOf, hi, hn]
    unfold Program.keyTypeAt at hk
    simp only [hu] at hk
    unfold Program.keyLits
    simp only [hu]
    unfold litsD at h
    split at h
    · obtain ⟨b, rfl, hr⟩ := litK_bool h hx
      exact ⟨_, rfl, hr⟩
    · obtain ⟨n, rfl, hr, hw⟩ := litK_int h hx
      exact ⟨_, by simp [hw], hr⟩
    · obtain ⟨s, rfl, hr, hw⟩ := litK_str h hx
      exact ⟨_, by simp [hw], hr⟩
    · rename_i n e _
      obtain ⟨hb, h⟩ := bif_some h
      rw [beq_iff, lenL_eq, decide_eq_true_eq] at hb
      obtain ⟨s, hs, h⟩ := obind_inv h
      show ∃ M, (if xs.length = X.P.cellsOf t then _ else _) = some M ∧ _
      rw [if_pos (by rw [denL_length hx, hb, hcells t len hlen])]
      simp only at hk
      have := litsA_sound (f := X.P.keyLits d e) (fun hr hx => litsT_sound hc d hr hk hx) n h hx
      rw [hcells e s hs]
      exact this
    · rename_i fs _
      obtain ⟨hb, h⟩ := bif_some h
      rw [beq_iff, lenL_eq, decide_eq_true_eq] at hb
      simp only [Bool.and_eq_true, Array.all_eq_true'] at hk
      show ∃ M, (if xs.length = X.P.cellsOf t ∧ (fs.all fun x => x.name != "_") = true then _ else _) = some M ∧ _
      rw [if_pos ⟨by rw [denL_length hx, hb, hcells t len hlen], by
        rw [Array.all_eq_true']
        intro f hf
        exact (hk.1.1 f hf).1⟩]
      exact litsF_sound (g := X.P.keyLits d) hx hcells (fun fd hfd => fun hr hx => litsT_sound hc d hr (hk.1.1 fd (by simpa using hfd)).2 hx) h
    · cases h
theorem litsT_len (hc : CxOK X K w0) {d : Nat} {t : TypeId} {cs L : List AV} {xs : List Value} (h : litsT X.cx d t cs = some L) (hw : (match X.P.underlying t with | some (.array _ _) | some (.struct _) => true | _ => false) = true) (hx : denL E cs = some xs) :
    (Value.agg xs.toArray).formed X.P t = true := by
  cases d with
  | zero => cases h
  | succ d =>
    change obind (X.cx.und.get t) (fun dd => obind (X.cx.size.get t) fun len => litsD X.cx (litsT X.cx d) len cs dd) = some L at h
    obtain ⟨dd, hd, h⟩ := obind_inv h
    obtain ⟨len, hlen, h⟩ := obind_inv h
    have hu := hc.und t dd hd
    have hcells : X.P.cellsOf t = len := by
      obtain ⟨i, hi, hn⟩ := hc.size t len hlen
      simp [Program.cellsOf, hi, hn]
    rw [hu] at hw
    unfold litsD at h
    split at h
    · cases hw
    · cases hw
    · cases hw
    · obtain ⟨hb, h⟩ := bif_some h
      rw [beq_iff, lenL_eq, decide_eq_true_eq] at hb
      simp [Value.formed, hu, denL_length hx, hb, hcells]
    · obtain ⟨hb, h⟩ := bif_some h
      rw [beq_iff, lenL_eq, decide_eq_true_eq] at hb
      simp [Value.formed, hu, denL_length hx, hb, hcells]
    · cases h

/-! ### Lists of bytes -/
theorem leqL_eq : ∀ (a b : List Nat), leqL a b = decide (a = b)
  | [], [] => rfl
  | [], _ :: _ => rfl
  | _ :: _, [] => rfl
  | a :: l, b :: m => by
    simp only [leqL]
    rw [beq_iff]
    by_cases e : a = b
    · subst e; rw [decide_eq_true rfl, bif_true, leqL_eq l m]; simp
    · rw [decide_eq_false e, bif_false]; symm; rw [decide_eq_false_iff_not]; intro h; exact e (List.cons.inj h).1
theorem map_u8_inj : ∀ {a b : List Nat}, (∀ c ∈ a, c < 256) → (∀ c ∈ b, c < 256) → a.map UInt8.ofNat = b.map UInt8.ofNat → a = b
  | [], [], _, _, _ => rfl
  | [], _ :: _, _, _, h => by cases h
  | _ :: _, [], _, _, h => by cases h
  | x :: a, y :: b, h1, h2, h => by
    simp only [List.map_cons, List.cons.injEq] at h
    have e := congrArg UInt8.toNat h.1
    rw [toU8 (h1 x (by simp)), toU8 (h2 y (by simp))] at e
    rw [e, map_u8_inj (fun c hc => h1 c (List.mem_cons_of_mem _ hc)) (fun c hc => h2 c (List.mem_cons_of_mem _ hc)) h.2]

/-! ### Two cells -/
theorem brK_two {c : T} {y n : St → VC} {b : Bool} (h : (brK c st y n).holds Θ E.va R) (hf : FOK E.va st.facts) (hc : c.ev E.va = some (.b b)) :
    ∃ f, FOK E.va f ∧ ((b = true ∧ (y (st.withF f)).holds Θ E.va R) ∨ (b = false ∧ (n (st.withF f)).holds Θ E.va R)) := brK_inv h hf hc
theorem litRel_toT {ρ : Va} {a : AV} {p : IntKind × T} {l : Lit} (h : toT a = some p) (hl : litRel ρ a l) : ∃ n, l = .int p.1 n ∧ p.2.ev ρ = some (.i n) := by
  unfold toT at h
  split at h
  · cases h
    cases l <;> simp only [litRel] at hl
    exact ⟨_, by rw [hl.1], by rw [hl.2.1]; rfl⟩
  · cases h
    cases l <;> simp only [litRel] at hl
    exact ⟨_, by rw [hl.1], hl.2⟩
  · cases h
theorem eqAt_inv {a b : AV} {y n : St → VC} (h : (eqAt a b st y n).holds Θ E.va R) (hf : FOK E.va st.facts) {l m : Lit} (hl : litRel E.va a l) (hm : litRel E.va b m) :
    ∃ f, FOK E.va f ∧ ((l = m ∧ (y (st.withF f)).holds Θ E.va R) ∨ (l ≠ m ∧ (n (st.withF f)).holds Θ E.va R)) := by
  have self : ∀ {K : St → VC}, (K st).holds Θ E.va R → (K (st.withF st.facts)).holds Θ E.va R := fun h => by rw [withF_self]; exact h
  unfold eqAt at h
  split at h
  · rename_i a b
    cases l <;> simp only [litRel] at hl
    cases m <;> simp only [litRel] at hm
    subst hl; subst hm
    refine ⟨st.facts, hf, ?_⟩
    rw [bbeq_eq] at h
    rcases bif_holds h with ⟨e, h⟩ | ⟨e, h⟩
    · exact .inl ⟨by rw [of_decide_eq_true e], self h⟩
    · exact .inr ⟨fun h => by cases h; simp at e, self h⟩
  · rename_i a c
    cases l <;> simp only [litRel] at hl
    cases m <;> simp only [litRel] at hm
    subst hl
    cases a with
    | true =>
      obtain ⟨f, hf', h⟩ := brK_two h hf hm
      refine ⟨f, hf', h.imp (fun ⟨e, h⟩ => ⟨by rw [e], h⟩) (fun ⟨e, h⟩ => ⟨by rw [e]; simp, h⟩)⟩
    | false =>
      obtain ⟨f, hf', h⟩ := brK_two h hf hm
      refine ⟨f, hf', h.symm.imp (fun ⟨e, h⟩ => ⟨by rw [e], h⟩) (fun ⟨e, h⟩ => ⟨by rw [e]; simp, h⟩)⟩
  · rename_i c b
    cases l <;> simp only [litRel] at hl
    cases m <;> simp only [litRel] at hm
    subst hm
    cases b with
    | true =>
      obtain ⟨f, hf', h⟩ := brK_two h hf hl
      refine ⟨f, hf', h.imp (fun ⟨e, h⟩ => ⟨by rw [e], h⟩) (fun ⟨e, h⟩ => ⟨by rw [e]; simp, h⟩)⟩
    | false =>
      obtain ⟨f, hf', h⟩ := brK_two h hf hl
      refine ⟨f, hf', h.symm.imp (fun ⟨e, h⟩ => ⟨by rw [e], h⟩) (fun ⟨e, h⟩ => ⟨by rw [e]; simp, h⟩)⟩
  · rename_i c d
    cases l <;> simp only [litRel] at hl
    cases m <;> simp only [litRel] at hm
    obtain ⟨f, hf', h⟩ := brK_two h hf hl
    rcases h with ⟨e, h⟩ | ⟨e, h⟩
    · obtain ⟨g, hg, h⟩ := brK_inv h (by rw [withF_facts]; exact hf') hm
      simp only [withF_withF] at h
      exact ⟨g, hg, h.imp (fun ⟨e', h⟩ => ⟨by rw [e, e'], h⟩) (fun ⟨e', h⟩ => ⟨by rw [e, e']; simp, h⟩)⟩
    · obtain ⟨g, hg, h⟩ := brK_inv h (by rw [withF_facts]; exact hf') hm
      simp only [withF_withF] at h
      exact ⟨g, hg, h.symm.imp (fun ⟨e', h⟩ => ⟨by rw [e, e'], h⟩) (fun ⟨e', h⟩ => ⟨by rw [e, e']; simp, h⟩)⟩
  · rename_i j a kd b
    cases l <;> simp only [litRel] at hl
    cases m <;> simp only [litRel] at hm
    obtain ⟨hk, h1⟩ := vif_inv h
    have hjk := kbeq_eq hk
    subst hjk
    obtain ⟨rfl, rfl, ha⟩ := hl
    obtain ⟨rfl, rfl, hb⟩ := hm
    refine ⟨st.facts, hf, ?_⟩
    rw [beq_iff] at h1
    rcases bif_holds h1 with ⟨e, h2⟩ | ⟨e, h2⟩
    · exact .inl ⟨by rw [of_decide_eq_true e], self h2⟩
    · exact .inr ⟨fun hh => of_decide_eq_false e (sgn_inj _ ha hb (by injection hh)), self h2⟩
  · rename_i s _ t
    cases l <;> simp only [litRel] at hl
    cases m <;> simp only [litRel] at hm
    obtain ⟨rfl, ha⟩ := hl
    obtain ⟨rfl, hb⟩ := hm
    refine ⟨st.facts, hf, ?_⟩
    rw [leqL_eq] at h
    rcases bif_holds h with ⟨e, h⟩ | ⟨e, h⟩
    · exact .inl ⟨by rw [of_decide_eq_true e], self h⟩
    · exact .inr ⟨fun hh => of_decide_eq_false e (map_u8_inj ha hb (by injection hh)), self h⟩
  · obtain ⟨p, hp, h⟩ := vbind_inv h
    obtain ⟨q, hq, h⟩ := vbind_inv h
    obtain ⟨hk, h⟩ := vif_inv h
    obtain ⟨n1, rfl, e1⟩ := litRel_toT hp hl
    obtain ⟨n2, rfl, e2⟩ := litRel_toT hq hm
    rw [kbeq_eq hk]
    obtain ⟨f, hf', h⟩ := brK_inv h hf (r := decide (n1 = n2)) (by rw [mkCmp_ev e1 e2]; rfl)
    exact ⟨f, hf', h.imp (fun ⟨e, h⟩ => ⟨by rw [of_decide_eq_true e], h⟩) (fun ⟨e, h⟩ => ⟨fun h => of_decide_eq_false e (by cases h; rfl), h⟩)⟩
theorem eqAts_inv : ∀ {a b : List AV} {st : St} {y n : St → VC}, (eqAts a b st y n).holds Θ E.va R → FOK E.va st.facts → ∀ {l m : List Lit}, litRels E.va a l → litRels E.va b m →
    ∃ f, FOK E.va f ∧ ((l = m ∧ (y (st.withF f)).holds Θ E.va R) ∨ (l ≠ m ∧ (n (st.withF f)).holds Θ E.va R))
  | [], [], st, y, n, h, hf, [], [], _, _ => ⟨st.facts, hf, .inl ⟨rfl, by rw [withF_self]; exact h⟩⟩
  | [], _ :: _, st, y, n, h, _, _, _, _, _ => h.elim
  | _ :: _, [], st, y, n, h, _, _, _, _, _ => h.elim
  | a :: x, b :: z, st, y, n, h, hf, l :: ls, m :: ms, h1, h2 => by
    change (eqAt a b st (fun st => eqAts x z st y n) n).holds Θ E.va R at h
    obtain ⟨f, hf', h⟩ := eqAt_inv h hf h1.1 h2.1
    rcases h with ⟨e, h⟩ | ⟨e, h⟩
    · obtain ⟨g, hg, h⟩ := eqAts_inv h (by rw [withF_facts]; exact hf') h1.2 h2.2
      simp only [withF_withF] at h
      exact ⟨g, hg, h.imp (fun ⟨e', h⟩ => ⟨by rw [e, e'], h⟩) (fun ⟨e', h⟩ => ⟨fun hh => e' (List.cons.inj hh).2, h⟩)⟩
    · exact ⟨f, hf', .inr ⟨fun hh => e (List.cons.inj hh).1, h⟩⟩
  | [], [], _, _, _, _, _, _ :: _, _, h, _ => h.elim
  | [], [], _, _, _, _, _, [], _ :: _, _, h => h.elim
  | _ :: _, _ :: _, _, _, _, _, _, [], _, h, _ => h.elim
  | _ :: _, _ :: _, _, _, _, _, _, _ :: _, [], _, h => h.elim

def TB (ρ : Va) (c : T) (p : Prop) : Prop := ∃ r : Bool, c.ev ρ = some (.b r) ∧ (r = true ↔ p)
theorem TB.bl {ρ : Va} {b : Bool} {p : Prop} (h : b = true ↔ p) : TB ρ (.bl b) p := ⟨b, rfl, h⟩
theorem eqT_ok {ρ : Va} {a b : AV} {c : T} (h : eqT a b = some c) {l m : Lit} (hl : litRel ρ a l) (hm : litRel ρ b m) : TB ρ c (l = m) := by
  unfold eqT at h
  split at h
  · cases h
    cases l <;> simp only [litRel] at hl
    cases m <;> simp only [litRel] at hm
    subst hl; subst hm
    refine .bl ?_
    rw [bbeq_eq, decide_eq_true_eq]
    exact ⟨fun h => by rw [h], fun h => by injection h⟩
  · rename_i a c'
    cases l <;> simp only [litRel] at hl
    cases m <;> simp only [litRel] at hm
    subst hl
    rename_i b
    cases a with
    | true => cases h; exact ⟨b, hm, by cases b <;> simp⟩
    | false => cases h; exact ⟨!b, mkNot_ev hm, by cases b <;> simp⟩
  · rename_i c' b
    cases l <;> simp only [litRel] at hl
    cases m <;> simp only [litRel] at hm
    subst hm
    rename_i a
    cases b with
    | true => cases h; exact ⟨a, hl, by simp⟩
    | false => cases h; exact ⟨!a, mkNot_ev hl, by simp⟩
  · rename_i c' d
    cases l <;> simp only [litRel] at hl
    cases m <;> simp only [litRel] at hm
    obtain ⟨e, h⟩ := bif_some h
    cases h
    rw [T.beq_eq e, hm] at hl
    cases hl
    exact .bl ⟨fun _ => rfl, fun _ => rfl⟩
  · rename_i j a kd b
    cases l <;> simp only [litRel] at hl
    cases m <;> simp only [litRel] at hm
    obtain ⟨hk, h⟩ := bif_some h
    cases h
    have hjk := kbeq_eq hk
    subst hjk
    obtain ⟨rfl, rfl, ha⟩ := hl
    obtain ⟨rfl, rfl, hb⟩ := hm
    refine .bl ?_
    rw [beq_iff, decide_eq_true_eq]
    exact ⟨fun h => by rw [h], fun hh => sgn_inj _ ha hb (by injection hh)⟩
  · rename_i s _ t
    cases l <;> simp only [litRel] at hl
    cases m <;> simp only [litRel] at hm
    cases h
    obtain ⟨rfl, ha⟩ := hl
    obtain ⟨rfl, hb⟩ := hm
    refine .bl ?_
    rw [leqL_eq, decide_eq_true_eq]
    exact ⟨fun h => by rw [h], fun hh => map_u8_inj ha hb (by injection hh)⟩
  · obtain ⟨p, hp, h⟩ := obind_inv h
    obtain ⟨q, hq, h⟩ := obind_inv h
    obtain ⟨hk, h⟩ := bif_some h
    obtain ⟨n1, rfl, e1⟩ := litRel_toT hp hl
    obtain ⟨n2, rfl, e2⟩ := litRel_toT hq hm
    rw [kbeq_eq hk]
    cases e : T.beq p.2 q.2 with
    | true =>
      rw [e, bif_true] at h
      cases h
      rw [T.beq_eq e, e2] at e1
      cases e1
      exact .bl ⟨fun _ => rfl, fun _ => rfl⟩
    | false =>
      rw [e, bif_false] at h
      cases h
      refine ⟨decide (n1 = n2), by rw [mkCmp_ev e1 e2]; rfl, ?_⟩
      rw [decide_eq_true_eq]
      exact ⟨fun h => by rw [h], fun h => by injection h⟩
theorem andT_ok {ρ : Va} {c d : T} {p q : Prop} (hc : TB ρ c p) (hd : TB ρ d q) : TB ρ (andT c d) (p ∧ q) := by
  obtain ⟨r, h1, h2⟩ := hc
  obtain ⟨s, h3, h4⟩ := hd
  unfold andT
  split
  · cases h1; exact ⟨s, h3, by rw [h4]; simp [← h2]⟩
  · cases h1; exact .bl (by simp [← h2])
  · cases h3; exact ⟨r, h1, by rw [h2]; simp [← h4]⟩
  · cases h3; exact .bl (by simp [← h4])
  · exact ⟨r && s, by simp only [T.ev, h1, h3], by rw [Bool.and_eq_true, h2, h4]⟩
theorem eqTs_ok {ρ : Va} : ∀ {a b : List AV} {c : T}, eqTs a b = some c → ∀ {l m : List Lit}, litRels ρ a l → litRels ρ b m → TB ρ c (l = m)
  | [], [], c, h, [], [], _, _ => by cases h; exact .bl ⟨fun _ => rfl, fun _ => rfl⟩
  | [], _ :: _, c, h, _, _, _, _ => by cases h
  | _ :: _, [], c, h, _, _, _, _ => by cases h
  | a :: x, b :: z, c, h, l :: ls, m :: ms, h1, h2 => by
    change (obind (eqT a b) fun c => obind (eqTs x z) fun d => some (andT c d)) = some c at h
    obtain ⟨c1, hc1, h⟩ := obind_inv h
    obtain ⟨c2, hc2, h⟩ := obind_inv h
    cases h
    obtain ⟨r, e1, e2⟩ := andT_ok (eqT_ok hc1 h1.1 h2.1) (eqTs_ok hc2 h1.2 h2.2)
    exact ⟨r, e1, by rw [e2]; exact ⟨fun ⟨h, h'⟩ => by rw [h, h'], fun h => List.cons.inj h⟩⟩
  | [], [], _, _, _ :: _, _, h, _ => h.elim
  | [], [], _, _, [], _ :: _, _, h => h.elim
  | _ :: _, _ :: _, _, _, [], _, h, _ => h.elim
  | _ :: _, _ :: _, _, _, _ :: _, [], _, h => h.elim
theorem brC_inv {c : T} {st : St} {x y : St → VC} {r : Bool} (h : (brC c st x y).holds Θ E.va R) (hf : FOK E.va st.facts) (hc : c.ev E.va = some (.b r)) :
    ∃ f, FOK E.va f ∧ ((r = true ∧ (x (st.withF f)).holds Θ E.va R) ∨ (r = false ∧ (y (st.withF f)).holds Θ E.va R)) := by
  unfold brC at h
  cases e : dec st.facts c with
  | none =>
    rw [e] at h
    have h : (c.ev E.va = some (.b true) → (x (st.withF (c :: st.facts))).holds Θ E.va R) ∧ (c.ev E.va = some (.b false) → (assume (mkNot c) st y).holds Θ E.va R) := h
    cases r with
    | true => exact ⟨c :: st.facts, hf.cons hc, .inl ⟨rfl, h.1 hc⟩⟩
    | false =>
      have h2 := h.2 hc
      rw [assume_eq] at h2
      exact ⟨_, addF_ok (mkNot_ev hc) hf, .inr ⟨rfl, h2⟩⟩
  | some b =>
    rw [e] at h
    have := dec_sound hf e hc
    subst this
    refine ⟨st.facts, hf, ?_⟩
    rw [withF_self]
    cases r with
    | true => exact .inl ⟨rfl, h⟩
    | false => exact .inr ⟨rfl, h⟩
theorem eqSs_inv {a b : List AV} {st : St} {y n : St → VC} (h : (eqSs a b st y n).holds Θ E.va R) (hf : FOK E.va st.facts) {l m : List Lit} (h1 : litRels E.va a l) (h2 : litRels E.va b m) :
    ∃ f, FOK E.va f ∧ ((l = m ∧ (y (st.withF f)).holds Θ E.va R) ∨ (l ≠ m ∧ (n (st.withF f)).holds Θ E.va R)) := by
  unfold eqSs at h
  cases e : eqTs a b with
  | none => rw [e] at h; exact eqAts_inv h hf h1 h2
  | some c =>
    rw [e] at h
    obtain ⟨r, e1, e2⟩ := eqTs_ok e h1 h2
    obtain ⟨f, hf', h⟩ : ∃ f, FOK E.va f ∧ ((r = true ∧ (y (st.withF f)).holds Θ E.va R) ∨ (r = false ∧ (n (st.withF f)).holds Θ E.va R)) := by
      rcases bif_holds h with ⟨_, h⟩ | ⟨_, h⟩
      · exact brC_inv h hf e1
      · exact brK_inv h hf e1
    refine ⟨f, hf', h.imp (fun ⟨e, h⟩ => ⟨e2.1 e, h⟩) (fun ⟨e, h⟩ => ⟨fun hh => (by rw [e2.2 hh] at e; cases e), h⟩)⟩

theorem binAgg_inv (hc : CxOK X K w0) {op : BinOp} {t : TypeId} {l m : List AV} (h : (binAgg X.cx op t l m st k).holds Θ E.va R) (hf : FOK E.va st.facts) (hl : okv E (.agg l)) (hm : okv E (.agg m)) (xo yo : Operand) :
    Bin2Out X.P Θ R E st k (.agg l) (.agg m) (opRun op t xo yo) := by
  obtain ⟨d, hd, h⟩ := vbind_inv h
  obtain ⟨la, hla, h⟩ := vbind_inv h
  obtain ⟨lb, hlb, h⟩ := vbind_inv h
  obtain ⟨hk, hgt, hle, hw⟩ := hc.eqm t d hd
  obtain ⟨_, hl⟩ := hl
  obtain ⟨xs0, hxs0, _⟩ := den_agg hl
  obtain ⟨_, hm⟩ := hm
  obtain ⟨ys0, hys0, _⟩ := den_agg hm
  obtain ⟨L, _, r1⟩ := litsT_sound hc d hla hk hxs0
  obtain ⟨M, _, r2⟩ := litsT_sound hc d hlb hk hys0
  have hva : E.fill.va = E.va := rfl
  rw [hva] at r1 r2
  have fin : ∀ {r : Bool} {v : AV}, (r = true ↔ L = M) → binFn op r = some v → Bin2 X.P E v (.agg l) (.agg m) (opRun op t xo yo) := by
    intro r v hr hv E' x y hE hx hy
    obtain ⟨xs, hxs, rfl⟩ := den_agg hx
    obtain ⟨ys, hys, rfl⟩ := den_agg hy
    obtain ⟨L', h1, r1'⟩ := litsT_sound hc d hla hk hxs
    obtain ⟨M', h2, r2'⟩ := litsT_sound hc d hlb hk hys
    have e1 := litRels_same r1' (litRels_mono hE.va r1)
    have e2 := litRels_same r2' (litRels_mono hE.va r2)
    subst e1; subst e2
    have heq : ∀ w, (Op.equal t (.agg xs.toArray) (.agg ys.toArray)).run X.P w = .ok r w := by
      intro w
      obtain ⟨r', hr', hiff⟩ := run_equalIn_deep (10000 - d) d t hk w d d (.agg xs.toArray) (.agg ys.toArray) _ _ (litsT_len hc hla hw hxs) (litsT_len hc hlb hw hys) (by simpa [Value.cells] using h1) (by simpa [Value.cells] using h2)
      have : r' = r := by rw [Bool.eq_iff_iff, hiff, hr]
      rw [← this]
      have e : 10000 - d + d = 10000 := by omega
      rw [e] at hr'
      exact hr'
    obtain ⟨b, rfl, _⟩ := binFn_run hv (P := X.P) (p := .agg xs.toArray) (q := .agg ys.toArray) (w := default) (.inr ⟨_, rfl⟩) (heq _)
    refine ⟨_, rfl, fun w => ?_⟩
    obtain ⟨b', e, hrun⟩ := binFn_run hv (P := X.P) (p := .agg xs.toArray) (q := .agg ys.toArray) (w := w) (.inr ⟨_, rfl⟩) (heq w)
    cases e
    have hg : (eqGuard op t xo yo (.agg xs.toArray) (.agg ys.toArray)).run X.P w = .ok () w := by
      unfold eqGuard
      cases op <;> simp [program, Sem.run, hgt]
    simp only [opRun, Sem.run_bind, hg, Result.andThen_ok, hrun]
  obtain ⟨f, hf', h⟩ := eqSs_inv h hf r1 r2
  rcases h with ⟨e, h⟩ | ⟨e, h⟩
  · obtain ⟨v, hv, h⟩ := outK_inv h
    exact ⟨v, f, h, hf', fin (r := true) ⟨fun _ => e, fun _ => rfl⟩ hv⟩
  · obtain ⟨v, hv, h⟩ := outK_inv h
    exact ⟨v, f, h, hf', fin (r := false) ⟨fun h => (by cases h), fun h => absurd h e⟩ hv⟩
end
end Go.Sy
/-! Operators: truths, texts; all of them; conversions; the least and the greatest. -/
namespace Go.Sy
section
variable {X : Tabs} {K : Nat → Prop} {w0 : World} {E : Env} {st : St} {w : World} {Θ : Pred} {R : List Back} {tm : Tm} {k : Kt} {o : Oper}

theorem opRun_bool {P : Program} {op : BinOp} {t : TypeId} {xo yo : Operand} {a b r : Bool} {v : AV} (ht : P.underlying t = some .bool) (hv : binFn op r = some v) (hr : r = decide (a = b)) :
    ∃ c, v = .bool c ∧ ∀ w, (opRun op t xo yo (.bool a) (.bool b)).run P w = .ok (.bool c) w := by
  have heq : ∀ w, (Op.equal t (.bool a) (.bool b)).run P w = .ok r w := by
    intro w
    have key : ∀ n, (Op.equalIn (n + 1) t (.bool a) (.bool b)).run P w = .ok r w := by
      intro n
      simp only [Op.equalIn, Sem.run_bind, run_underlying ht, Result.andThen_ok, Sem.run_pure, hr]
      congr 1
    exact key 9999
  obtain ⟨c, rfl, _⟩ := binFn_run hv (P := P) (p := .bool a) (q := .bool b) (w := default) (.inl rfl) (heq _)
  refine ⟨c, rfl, fun w => ?_⟩
  obtain ⟨c', e, hrun⟩ := binFn_run hv (P := P) (p := .bool a) (q := .bool b) (w := w) (.inl rfl) (heq w)
  cases e
  simp only [opRun, Sem.run_bind, eqGuard_ok (P := P) op t xo yo (p := .bool a) (q := .bool b) rfl (fun h => by cases h), Result.andThen_ok, hrun]
theorem bool_bin2 {P : Program} {op : BinOp} {t : TypeId} {xo yo : Operand} {r a b : Bool} {v p q : AV} (ht : P.underlying t = some .bool) (hv : binFn op r = some v)
    (hp : ∀ E' x, E.Le E' → p.den E' = some x → x = .bool a) (hq : ∀ E' x, E.Le E' → q.den E' = some x → x = .bool b) (hr : r = decide (a = b)) : Bin2 P E v p q (opRun op t xo yo) := by
  intro E' x y hE hx hy
  rw [hp E' x hE hx, hq E' y hE hy]
  obtain ⟨c, rfl, h⟩ := opRun_bool (xo := xo) (yo := yo) ht hv hr
  exact ⟨_, rfl, h⟩
theorem eqB_inv {P : Program} {op : BinOp} {c z : T} {t : TypeId} {xo yo : Operand} {a b cv : Bool} {p q : AV} (h : (eqB op c st k (.cnd z)).holds Θ E.va R) (hf : FOK E.va st.facts) (ht : P.underlying t = some .bool) (hc : c.ev E.va = some (.b cv)) (hcv : cv = decide (a = b))
    (hp : ∀ E' x, E.Le E' → p.den E' = some x → x = .bool a) (hq : ∀ E' x, E.Le E' → q.den E' = some x → x = .bool b) : Bin2Out P Θ R E st k p q (opRun op t xo yo) := by
  change (brK c st (fun st => outK st k (binFn op true)) (fun st => outK st k (binFn op false))).holds Θ E.va R at h
  obtain ⟨f, hf', h⟩ := brK_inv h hf hc
  rcases h with ⟨e, h⟩ | ⟨e, h⟩
  · obtain ⟨v, hv, h⟩ := outK_inv h
    exact ⟨v, f, h, hf', bool_bin2 ht hv hp hq (by rw [← hcv, e])⟩
  · obtain ⟨v, hv, h⟩ := outK_inv h
    exact ⟨v, f, h, hf', bool_bin2 ht hv hp hq (by rw [← hcv, e])⟩
theorem bool_den {a : Bool} : ∀ E' x, E.Le E' → (AV.bool a).den E' = some x → x = .bool a := fun E' x _ h => by cases h; rfl
theorem boolRec {a : Bool} {x y : VC} (h : (Bool.rec x y a : VC).holds Θ E.va R) : (a = true ∧ y.holds Θ E.va R) ∨ (a = false ∧ x.holds Θ E.va R) := by
  cases a with
  | true => exact .inl ⟨rfl, h⟩
  | false => exact .inr ⟨rfl, h⟩
theorem binB_inv {P : Program} {op : BinOp} {a : Bool} {q : AV} {t : TypeId} {xo yo : Operand} (h : (binB op a st k q).holds Θ E.va R) (hf : FOK E.va st.facts) (hoq : okv E q) (ht : P.underlying t = some .bool) :
    Bin2Out P Θ R E st k (.bool a) q (opRun op t xo yo) := by
  unfold binB at h
  split at h
  · obtain ⟨v, hv, h⟩ := outK_inv h
    exact .now h hf (bool_bin2 ht hv bool_den bool_den (bbeq_eq _ _))
  · rename_i c
    obtain ⟨b, hb, hd⟩ := cnd_inv hoq
    rcases boolRec h with ⟨e, h⟩ | ⟨e, h⟩
    · exact eqB_inv h hf ht hb (a := a) (b := b) (by rw [e]; cases b <;> rfl) bool_den hd
    · exact eqB_inv h hf ht (mkNot_ev hb) (a := a) (b := b) (by rw [e]; cases b <;> rfl) bool_den hd
  · exact h.elim
theorem binC_inv {P : Program} {op : BinOp} {c : T} {q : AV} {t : TypeId} {xo yo : Operand} (h : (binC op c st k q).holds Θ E.va R) (hf : FOK E.va st.facts) (hop : okv E (.cnd c)) (hoq : okv E q) (ht : P.underlying t = some .bool) :
    Bin2Out P Θ R E st k (.cnd c) q (opRun op t xo yo) := by
  obtain ⟨a, ha, hda⟩ := cnd_inv hop
  unfold binC at h
  split at h
  · rename_i b
    rcases boolRec h with ⟨e, h⟩ | ⟨e, h⟩
    · exact eqB_inv h hf ht ha (a := a) (b := b) (by rw [e]; cases a <;> rfl) hda bool_den
    · exact eqB_inv h hf ht (mkNot_ev ha) (a := a) (b := b) (by rw [e]; cases a <;> rfl) hda bool_den
  · rename_i d
    obtain ⟨b, hb, hdb⟩ := cnd_inv hoq
    obtain ⟨f, hf', h⟩ := brK_inv h hf hb
    rcases h with ⟨e, h⟩ | ⟨e, h⟩
    · obtain ⟨v, g, h1, h2, h3⟩ := eqB_inv (k := k) h (by rw [withF_facts]; exact hf') ht ha (a := a) (b := b) (by rw [e]; cases a <;> rfl) hda hdb
      exact ⟨v, g, by rw [withF_withF] at h1; exact h1, h2, h3⟩
    · obtain ⟨v, g, h1, h2, h3⟩ := eqB_inv (k := k) h (by rw [withF_facts]; exact hf') ht (mkNot_ev ha) (a := a) (b := b) (by rw [e]; cases a <;> rfl) hda hdb
      exact ⟨v, g, by rw [withF_withF] at h1; exact h1, h2, h3⟩
  · exact h.elim

/-! ### Texts -/
theorem bytesOf_toList (s : List Nat) : (bytesOf s).toList = s.map UInt8.ofNat := by rw [ByteArray.toList_eq]; rfl
theorem bytesOf_append (s t : List Nat) : bytesOf s ++ bytesOf t = bytesOf (s ++ t) := by
  apply ByteArray.ext
  rw [ByteArray.data_append]
  simp [bytesOf]
theorem bytesLess_map : ∀ {s t : List Nat}, (∀ c ∈ s, c < 256) → (∀ c ∈ t, c < 256) → Op.bytesLess (s.map UInt8.ofNat) (t.map UInt8.ofNat) = lltL s t
  | [], [], _, _ => rfl
  | _ :: _, [], _, _ => rfl
  | [], _ :: _, _, _ => rfl
  | a :: s, b :: t, h1, h2 => by
    have ha := h1 a (by simp)
    have hb := h2 b (by simp)
    have ih := bytesLess_map (s := s) (t := t) (fun c hc => h1 c (List.mem_cons_of_mem _ hc)) (fun c hc => h2 c (List.mem_cons_of_mem _ hc))
    simp only [List.map_cons, Op.bytesLess, lltL, ih, blt_iff, beq_iff]
    have e1 : (UInt8.ofNat a < UInt8.ofNat b) ↔ a < b := by rw [UInt8.lt_iff_toNat_lt, toU8 ha, toU8 hb]
    have e2 : (UInt8.ofNat a == UInt8.ofNat b) = decide (a = b) := by
      by_cases e : a = b
      · subst e; simp
      · rw [decide_eq_false e, beq_eq_false_iff_ne]
        intro h
        have := congrArg UInt8.toNat h
        rw [toU8 ha, toU8 hb] at this; exact e this
    rw [e2]
    by_cases c : a < b
    · simp [e1, c]
    · simp only [e1, c, decide_false, bif_false]
      by_cases d : a = b <;> simp [d]
theorem strOp_run {P : Program} {op : BinOp} {n m : Nat} {s t : List Nat} {v : AV} (h : strOp op n s m t = some v) {x y : Value} (hx : (AV.str n s).den E = some x) (hy : (AV.str m t).den E = some y) (ty : TypeId) (xo yo : Operand) :
    ∃ z, v.den E = some z ∧ ∀ w, (opRun op ty xo yo x y).run P w = .ok z w := by
  obtain ⟨hn, hs, rfl⟩ := den_str hx
  obtain ⟨hm, ht, rfl⟩ := den_str hy
  have hg : ∀ w, (eqGuard op ty xo yo (.string (bytesOf s)) (.string (bytesOf t))).run P w = .ok () w := fun w => by unfold eqGuard; cases op <;> simp
  have hop : Go.binOp op ty (.string (bytesOf s)) (.string (bytesOf t)) = Op.stringOp op (bytesOf s) (bytesOf t) := by cases op <;> rfl
  have hleq : ((bytesOf s).toList == (bytesOf t).toList) = leqL s t := by
    rw [leqL_eq, bytesOf_toList, bytesOf_toList]
    by_cases e : s = t
    · subst e; simp
    · rw [decide_eq_false e, beq_eq_false_iff_ne]; exact fun h => e (map_u8_inj hs ht h)
  have hllt : Op.bytesLess (bytesOf s).toList (bytesOf t).toList = lltL s t := by rw [bytesOf_toList, bytesOf_toList, bytesLess_map hs ht]
  unfold strOp at h
  split at h
  · obtain ⟨hb, h⟩ := bif_some h
    cases h
    rw [ble_iff, natAdd, decide_eq_true_eq] at hb
    refine ⟨.string (bytesOf (s ++ t)), den_str_of (by rw [natAdd, List.length_append, hn, hm]) (fun c hc => (List.mem_append.1 hc).elim (hs c) (ht c)), fun w => ?_⟩
    simp only [opRun, Sem.run_bind, hg, Result.andThen_ok, hop, Op.stringOp, bytesOf_size]
    rw [if_neg (by show ¬ (((s.length + t.length : Nat) : Int) > 9223372036854775807); omega), bytesOf_append]
    rfl
  all_goals first | (cases h; done) | skip
  all_goals (
    cases h
    refine ⟨_, rfl, fun w => ?_⟩
    simp only [opRun, Sem.run_bind, hg, Result.andThen_ok, hop, Op.stringOp, hleq, hllt]
    rfl)
theorem binStr_inv {P : Program} {op : BinOp} {n : Nat} {s : List Nat} {q : AV} {t : TypeId} {xo yo : Operand} (h : (binStr op n s st k q).holds Θ E.va R) (hf : FOK E.va st.facts) : Bin2Out P Θ R E st k (.str n s) q (opRun op t xo yo) := by
  unfold binStr at h
  split at h
  · obtain ⟨v, hv, h⟩ := outK_inv h
    exact .now h hf fun E' x y _ hx hy => strOp_run hv hx hy t xo yo
  · exact h.elim

theorem xBin_inv (hc : CxOK X K w0) {op : BinOp} {t : TypeId} {d : TypeDesc} {p q : AV} {xo yo : Operand} (h : (xBin X.cx op t d (isConst xo || isConst yo) q st k p).holds Θ E.va R) (hf : FOK E.va st.facts) (hop : okv E p) (hoq : okv E q) (hd : X.cx.und.get t = some d) :
    Bin2Out X.P Θ R E st k p q (opRun op t xo yo) := by
  have hbool : ∀ {y : VC}, (vif (isBoolD d) y).holds Θ E.va R → X.P.underlying t = some .bool ∧ y.holds Θ E.va R := by
    intro y h
    obtain ⟨h1, h2⟩ := vif_inv h
    refine ⟨?_, h2⟩
    have := hc.und t d hd
    cases d <;> first | (cases h1; done) | exact this
  unfold xBin at h
  split at h
  · exact binI_inv h hf hop hoq t xo yo
  · exact binS_inv h hf hop hoq t xo yo
  · obtain ⟨h1, h2⟩ := hbool h; exact binB_inv h2 hf hoq h1
  · obtain ⟨h1, h2⟩ := hbool h; exact binC_inv h2 hf hop hoq h1
  · exact binStr_inv h hf
  · unfold binG at h
    split at h
    · exact binAgg_inv hc h hf hop hoq xo yo
    · exact h.elim
  · obtain ⟨r, hr, h⟩ := vbind_inv h
    obtain ⟨v, hv, h⟩ := outK_inv h
    refine .now h hf fun E' x y _ hx hy => ?_
    obtain ⟨hsh, hnn⟩ := eqD_shape hr hx hy
    have heq : ∀ w, (Op.equal t x y).run X.P w = .ok r w := fun w => eqD_sound hr (hc.und t d hd) hx hy 9999 w
    obtain ⟨b, rfl, _⟩ := binFn_run hv (w := default) (.inl hsh) (heq _)
    refine ⟨_, rfl, fun w => ?_⟩
    obtain ⟨b', e, hrun⟩ := binFn_run hv (w := w) (.inl hsh) (heq w)
    cases e
    simp only [opRun, Sem.run_bind, eqGuard_ok (P := X.P) op t xo yo hsh hnn, Result.andThen_ok, hrun]

/-! ### One operand -/
/-- Whenever it comes, and whatever it is that x stands for. -/
def Un1 (P : Program) (E : Env) (v p : AV) (run : Value → Sem Value) : Prop :=
  ∀ E' x, E.Le E' → p.den E' = some x → ∃ z, v.den E' = some z ∧ ∀ w, (run x).run P w = .ok z w
def Un1Out (P : Program) (Θ : Pred) (R : List Back) (E : Env) (st : St) (k : Kt) (p : AV) (run : Value → Sem Value) : Prop :=
  ∃ v f, (k v (st.withF f)).holds Θ E.va R ∧ FOK E.va f ∧ Un1 P E v p run
theorem Un1Out.now {P : Program} {p v : AV} {run : Value → Sem Value} (hk : (k v st).holds Θ E.va R) (hf : FOK E.va st.facts) (h : Un1 P E v p run) : Un1Out P Θ R E st k p run :=
  ⟨v, st.facts, by rw [withF_self]; exact hk, hf, h⟩
theorem sgn_zero (k : IntKind) : sgn k 0 = 0 := by cases k <;> rfl
theorem ones_sgn (k : IntKind) : sgn k (modOf k - 1) = if k.signed then -1 else k.max := by cases k <;> rfl
theorem xUn_inv {P : Program} {op : UnOp} {p : AV} (h : (xUn op st k p).holds Θ E.va R) (hf : FOK E.va st.facts) (hop : okv E p) : Un1Out P Θ R E st k p (Op.unary op) := by
  have hm := modOf_pos
  unfold xUn at h
  split at h
  · split at h
    · exact .now h hf fun E' x _ hx => by cases hx; exact ⟨_, rfl, fun w => rfl⟩
    · exact h.elim
  · split at h
    · obtain ⟨b, hb, hd⟩ := cnd_inv hop
      exact .now h hf fun E' x hE hx => by rw [hd E' x hE hx]; exact ⟨_, den_cnd_of (ev_mono hE.va (mkNot_ev hb)), fun w => rfl⟩
    · exact h.elim
  · rename_i kd a
    split at h
    · refine .now h hf fun E' x _ hx => ?_
      obtain ⟨ha, rfl⟩ := den_int hx
      obtain ⟨h1, h2⟩ := arU_zar (op := .sub) (k := kd) (a := 0) (b := a) (y := sgn kd a) rfl (hm kd) (fun _ => ⟨ha, rfl⟩) (fun h => by cases h)
      rw [natAdd, Nat.zero_add, natMod] at h1 h2
      refine ⟨_, den_int_of h1, fun w => ?_⟩
      rw [sgn_zero] at h2
      have := zar_run (P := P) h2 (.inr rfl : isShift .sub = true ∨ kd = kd) 0 w
      simp only [Go.binOp, ne_eq, not_true_eq_false, if_false] at this
      exact this
    · refine .now h hf fun E' x _ hx => ?_
      obtain ⟨ha, rfl⟩ := den_int hx
      obtain ⟨h1, h2⟩ := arU_zar (op := .xor) (k := kd) (a := modOf kd - 1) (b := a) (y := sgn kd a) rfl (by have := hm kd; omega) (fun _ => ⟨ha, rfl⟩) (fun h => by cases h)
      have e : Nat.xor (modOf kd - 1) a = Nat.xor a (Nat.sub (modOf kd) 1) := Nat.xor_comm _ _
      rw [e] at h1 h2
      refine ⟨_, den_int_of h1, fun w => ?_⟩
      have := zar_run (P := P) h2 (.inr rfl : isShift .xor = true ∨ kd = kd) 0 w
      rw [ones_sgn] at this
      simpa [Go.binOp, Op.unary] using this
    · exact h.elim
  · rename_i kd t
    obtain ⟨n, h1, h2, h3⟩ := toT_inv (v := .sym kd t) rfl hop
    split at h
    · have hz : zar .sub kd 0 n = some (kd.wrap (0 - n)) := rfl
      refine .now h hf fun E' x hE hx => ?_
      rw [h3 E' x hE hx]
      refine ⟨_, den_sym_of (bin_ev (ρ := E'.va) rfl (ev_mono hE.va h1) hz) (wrap_wf _ _), fun w => ?_⟩
      have := zar_run (P := P) hz (.inr rfl : isShift .sub = true ∨ kd = kd) 0 w
      simp only [Go.binOp, ne_eq, not_true_eq_false, if_false] at this
      exact this
    · obtain ⟨c, hz⟩ : ∃ c, zar .xor kd (sgn kd (modOf kd - 1)) n = some c := ⟨_, rfl⟩
      refine .now h hf fun E' x hE hx => ?_
      rw [h3 E' x hE hx]
      refine ⟨_, den_sym_of (bin_ev (ρ := E'.va) rfl (ev_mono hE.va h1) hz) (zar_wf hz (sgn_wf _ (by have := hm kd; omega))), fun w => ?_⟩
      have := zar_run (P := P) hz (.inr rfl : isShift .xor = true ∨ kd = kd) 0 w
      rw [ones_sgn] at this
      simpa [Go.binOp, Op.unary] using this
    · exact h.elim
  · exact h.elim

/-! ### The least, the greatest -/
def mmRun (mx : Bool) : Value → Value → Sem Value := if mx then Builtin.max2 else Builtin.min2
theorem mmRun_int {P : Program} (mx : Bool) (j k : IntKind) (x y : Int) (w : World) : (mmRun mx (.int j x) (.int k y)).run P w = .ok (.int j (if (if mx then x < y else y < x) then y else x)) w := by
  cases mx <;> simp [mmRun, Builtin.min2, Builtin.max2]
theorem mm2_inv {P : Program} {mx : Bool} {p q : AV} (h : (mm2 mx st k p q).holds Θ E.va R) (hf : FOK E.va st.facts) (hop : okv E p) (hoq : okv E q) : Bin2Out P Θ R E st k p q (mmRun mx) := by
  unfold mm2 at h
  split at h
  · rename_i j a kd b
    obtain ⟨hk, h1⟩ := vif_inv h
    have hjk := kbeq_eq hk
    subst hjk
    obtain ⟨x0, hx0⟩ := hop
    have ha := (den_int hx0).1
    obtain ⟨y0, hy0⟩ := hoq
    have hb := (den_int hy0).1
    have key : ∀ {v : AV} {c : Nat}, v = .int j c → c < modOf j → (sgn j c = if (if mx then sgn j a < sgn j b else sgn j b < sgn j a) then sgn j b else sgn j a) → Bin2 P E v (.int j a) (.int j b) (mmRun mx) := by
      intro v c hv hlt e E' x y _ hx hy
      rw [(den_int hx).2, (den_int hy).2]
      subst hv
      exact ⟨_, den_int_of hlt, fun w => by rw [mmRun_int, e]⟩
    have hcond : (Bool.rec (sltU (halfOf j) b a) (sltU (halfOf j) a b) mx : Bool) = decide (if mx then sgn j a < sgn j b else sgn j b < sgn j a) := by
      cases mx with
      | true => show sltU _ _ _ = _; rw [sltU_eq j ha hb]; simp
      | false => show sltU _ _ _ = _; rw [sltU_eq j hb ha]; simp
    rw [hcond] at h1
    rcases bif_holds h1 with ⟨e, h2⟩ | ⟨e, h2⟩
    · exact .now h2 hf (key rfl hb (by rw [if_pos (of_decide_eq_true e)]))
    · exact .now h2 hf (key rfl ha (by rw [if_neg (of_decide_eq_false e)]))
  · obtain ⟨a, hpa, h⟩ := vbind_inv h
    obtain ⟨b, hqb, h⟩ := vbind_inv h
    obtain ⟨hk, h⟩ := vif_inv h
    obtain ⟨j, x⟩ := a
    obtain ⟨kd, y⟩ := b
    have hjk := kbeq_eq hk
    simp only at hjk
    subst hjk
    obtain ⟨n, h1, _, hn⟩ := toT_inv hpa hop
    obtain ⟨m, h2, _, hm⟩ := toT_inv hqb hoq
    have hev : (mkCmp (Bool.rec .lss .gtr mx) y x).ev E.va = some (.b (decide (if mx then n < m else m < n))) := by
      rw [mkCmp_ev h2 h1]
      cases mx <;> simp [zcm]
    obtain ⟨f, hf', h⟩ := brK_inv h hf hev
    rcases h with ⟨e, h⟩ | ⟨e, h⟩
    · refine ⟨q, f, h, hf', fun E' x y hE hx hy => ⟨y, hy, fun w => ?_⟩⟩
      rw [hn E' x hE hx, hm E' y hE hy, mmRun_int, if_pos (of_decide_eq_true e)]
    · refine ⟨p, f, h, hf', fun E' x y hE hx hy => ⟨x, hx, fun w => ?_⟩⟩
      rw [hn E' x hE hx, hm E' y hE hy, mmRun_int, if_neg (of_decide_eq_false e)]
theorem mmL_inv {P : Program} {mx : Bool} : ∀ {l : List AV} {v : AV} {st : St}, (mmL mx l v st k).holds Θ E.va R → FOK E.va st.facts → okv E v → (∀ u ∈ l, okv E u) →
    ∃ u f, (k u (st.withF f)).holds Θ E.va R ∧ FOK E.va f ∧ ∀ E' x xs, E.Le E' → v.den E' = some x → denL E' l = some xs → ∃ z, u.den E' = some z ∧ ∀ w, (xs.foldlM (mmRun mx) x).run P w = .ok z w
  | [], v, st, h, hf, _, _ => ⟨v, st.facts, by rw [withF_self]; exact h, hf, fun E' x xs _ hx hxs => ⟨x, hx, fun w => by rw [denL_nil.1 hxs]; rfl⟩⟩
  | q :: l, v, st, h, hf, hv, hl => by
    change (mm2 mx st (fun v st => mmL mx l v st k) v q).holds Θ E.va R at h
    obtain ⟨u, f, h1, hf', h2⟩ := mm2_inv (P := P) h hf hv (hl q (by simp))
    have hu : okv E u := by
      obtain ⟨x, hx⟩ := hv
      obtain ⟨y, hy⟩ := hl q (by simp)
      obtain ⟨z, hz, _⟩ := h2 E.fill x y E.le_fill hx hy
      exact ⟨z, hz⟩
    obtain ⟨u', g, h3, hg, h4⟩ := mmL_inv (P := P) h1 (by rw [withF_facts]; exact hf') hu fun y hy => hl y (List.mem_cons_of_mem _ hy)
    rw [withF_withF] at h3
    refine ⟨u', g, h3, hg, fun E' x xs hE hx hxs => ?_⟩
    obtain ⟨y, ys, hy, hys, rfl⟩ := denL_cons.1 hxs
    obtain ⟨z, hz, hrun⟩ := h2 E' x y hE hx hy
    obtain ⟨z', hz', hrun'⟩ := h4 E' z ys hE hz hys
    exact ⟨z', hz', fun w => by simp only [List.foldlM_cons, Sem.run_bind, hrun w, Result.andThen_ok, hrun' w]⟩
end
end Go.Sy
/-! Operations that leave memory as it is: parts, places, slices. -/
namespace Go.Sy
section
variable {X : Tabs} {K : Nat → Prop} {w0 : World} {E : Env} {st : St} {w : World} {Θ : Pred} {R : List Back} {tm : Tm} {k : Kt} {o : Oper}

/-- A part of a type of that form. -/
theorem part_sound (hc : CxOK X K w0) {t : TypeId} {g : Option Nat} (hg : aggN X.cx.und X.cx.size t = some g) {l : List AV} {off : Nat} {v : AV} (h : part g l off = some v) {E : Env} {xs : List Value} (hx : denL E l = some xs) :
    ∃ y, v.den E = some y ∧ ∀ w, (Go.part t xs.toArray off).run X.P w = .ok y w := by
  cases g with
  | none =>
    change getL off l = some v at h
    rw [getL_eq] at h
    obtain ⟨y, h1, h2⟩ := denL_get hx h
    refine ⟨y, h1, fun w => ?_⟩
    have hi := (aggN_sound hc hg w).1
    simp only [Option.isSome_none] at hi
    simp [Go.part, hi, h2]
  | some n =>
    obtain ⟨_, h⟩ := bif_some h
    cases h
    rw [takeL_eq, dropL_eq]
    refine ⟨.agg ((xs.drop off).take n).toArray, den_agg_of (denL_take n (denL_drop off hx)), fun w => ?_⟩
    obtain ⟨hi, hs⟩ := aggN_sound hc hg w
    simp only [Option.isSome_some] at hi
    simp only [Go.part, Sem.run_bind, hi, Result.andThen_ok, if_true, hc.size' (hs n rfl), Sem.run_pure]
    congr 2
    apply Array.ext'
    simp [Nat.add_sub_cancel_left]

/-! ### Composite values -/
theorem denL_fillAt : ∀ {vs l : List AV} {ys xs : List Value} (off : Nat), denL E vs = some ys → denL E l = some xs → denL E (fillAt off vs l) = some (fillAt off ys xs)
  | [], l, ys, xs, off, h, hl => by rw [denL_nil.1 h]; exact hl
  | v :: r, l, ys, xs, off, h, hl => by
    obtain ⟨p, q, hp, hq, rfl⟩ := denL_cons.1 h
    simp only [fillAt, setL_eq]
    exact denL_fillAt _ hq (denL_set off hl hp)
theorem fold_fillAt : ∀ (ys : List Value) (s off : Nat) (cs : Array Value), ((ys.zipIdx s).foldl (fun cs x => cs.setIfInBounds (off + x.2) x.1) cs).toList = fillAt (off + s) ys cs.toList
  | [], s, off, cs => by simp [fillAt]
  | y :: r, s, off, cs => by
    simp only [List.zipIdx_cons, List.foldl_cons, fillAt, setL_eq]
    rw [fold_fillAt r (s + 1) off]
    simp [Nat.add_assoc]
/-- What is put in, at places that are known. -/
theorem build_sound {place place' : Nat → Option (Nat × Nat)} (hpl : ∀ i p, place i = some p → place' i = some p) {E : Env} {ρ : Operand → Value} :
    ∀ {parts : List (Nat × Operand)} {ps : List (Nat × Nat × BO)} {l l' : List AV} {xs : List Value}, cParts place parts = some ps → buildP (evPs tm ps) l = some l' → denL E l = some xs → Rd E tm ρ (parts.map (·.2)) →
      ∃ xs', denL E l' = some xs' ∧ Instr.fill place' xs.toArray (parts.map fun p => (p.1, ρ p.2)) = some xs'.toArray
  | [], ps, l, l', xs, hp, h, hl, _ => by
    cases hp
    cases h
    exact ⟨xs, hl, rfl⟩
  | (i, x) :: parts, ps, l, l', xs, hp, h, hl, hR => by
    change obind (place i) (fun q => obind (cO x) fun b => obind (cParts place parts) fun r => some ((q.1, (q.2, b)) :: r)) = some ps at hp
    obtain ⟨q, hq, hp⟩ := obind_inv hp
    obtain ⟨b, hb, hp⟩ := obind_inv hp
    obtain ⟨r, hr, hp⟩ := obind_inv hp
    cases hp
    change bif_ (notDead (ev tm b) && (Nat.beq q.2 (lenL (ev tm b).cells) && Nat.ble (Nat.add q.1 q.2) (lenL l))) (buildP (evPs tm r) (fillF q.1 (ev tm b).cells l)) none = some l' at h
    rw [fillF_eq] at h
    obtain ⟨hcond, h⟩ := bif_some h
    simp only [Bool.and_eq_true, beq_iff, ble_iff, decide_eq_true_eq, lenL_eq, natAdd] at hcond
    obtain ⟨hd, e1, e2⟩ := hcond
    have hy := hR x (by simp) b hb
    obtain ⟨ys, hys, hcs⟩ := den_cells hd hy
    have hl1 := denL_length hys
    have hl2 := denL_length hl
    obtain ⟨xs', h3, h4⟩ := build_sound hpl hr h (denL_fillAt q.1 hys hl) (fun y hy => hR y (by simp only [List.map_cons]; exact List.mem_cons_of_mem _ hy))
    refine ⟨xs', h3, ?_⟩
    have hsz : (ρ x).cells.size = q.2 := by rw [e1, ← hl1, ← hcs]; simp
    have hfold : ((ρ x).cells.zipIdx.foldl (fun cs x => cs.setIfInBounds (q.1 + x.2) x.1) xs.toArray) = (fillAt q.1 ys xs).toArray := by
      apply Array.ext'
      rw [← Array.foldl_toList, Array.toList_zipIdx, hcs]
      simpa using fold_fillAt ys 0 q.1 xs.toArray
    simp only [List.map_cons, Instr.fill, hpl _ q hq]
    rw [if_neg (by simp [hsz]; omega)]
    rw [hfold]
    exact h4
theorem placeS_ok (hc : CxOK X K w0) {t : TypeId} {fs : Array Field} (hd : X.cx.und.get t = some (.struct fs)) :
    ∃ places, fs.toList.mapM (fun f => (X.P.info? f.type).map fun i => (f.offset, i.size)) = some places ∧ ∀ i p, placeS X.cx.size fs.toList i = some p → places[i]? = some p := by
  refine ⟨fs.toList.map fun f => (((X.P.info? f.type).map fun i => (f.offset, i.size)).getD (0, 0)), ChangeMaps.mapM_total _ fun f hf => ?_, fun i p hp => ?_⟩
  · obtain ⟨i, hi⟩ := hc.fld t fs hd f hf; exact ⟨_, by rw [hi]; rfl⟩
  · obtain ⟨f, hf, hp⟩ := obind_inv hp
    obtain ⟨n, hn, hp⟩ := obind_inv hp
    cases hp
    rw [getL_eq] at hf
    obtain ⟨i', hi', hn'⟩ := hc.size _ _ hn
    simp [hf, hi', hn']
theorem ops_build {t : TypeId} {parts : Array (Nat × Operand)} (ho : o.op = .build t parts) : o.op.operands.toList = parts.toList.map (·.2) := by rw [ho]; rfl
theorem cBuild_out (hc : CxOK X K w0) {cxr : Rec} {t : TypeId} {parts : Array (Nat × Operand)} {d : TypeDesc} {b : BOp} (hd : X.cx.und.get t = some d) (hb : cBuild X.cx.size X.cx.zero t parts.toList d = some b) (h : (xop b X.cx cxr tm st k).holds Θ E.va R) (hf : FOK E.va st.facts) (ho : o.op = .build t parts) :
    ValOut X Θ R E o tm st k := by
  have hu := hc.und t d hd
  unfold cBuild at hb
  split at hb
  · rename_i fs
    obtain ⟨z, hz, hb⟩ := obind_inv hb
    obtain ⟨ps, hps, hb⟩ := obind_inv hb
    cases hb
    obtain ⟨l, hl, h⟩ := vbind_inv h
    obtain ⟨it, zv, h1, h2, h3, h4, h5, _⟩ := hc.zero t z hz
    obtain ⟨places, hp1, hp2⟩ := placeS_ok hc hd
    refine .now h hf fun E' ρ hE hR => ?_
    rw [ops_build ho] at hR
    obtain ⟨xs', e1, e2⟩ := build_sound (place' := (places.toArray[·]?)) (fun i p hp => by simpa using hp2 i p hp) hps hl (h5 E') hR
    refine ⟨_, den_agg_of e1, fun w => ?_⟩
    have hex : (execOp ρ o).run X.P w = ((Instr.build t (parts.map fun (i, x) => (i, ρ x))) >>= fun v => pure (Next.value v) : Sem Next).run X.P w := by simp only [execOp, ho]
    rw [hex]
    have := run_build (P := X.P) w t (parts.map fun (i, x) => (i, ρ x)) xs'.toArray (by simp only [Program.built, h1, hu, h2, hp1]; simpa using e2)
    simp [this]
  · rename_i n e
    obtain ⟨z, hz, hb⟩ := obind_inv hb
    obtain ⟨s, hs, hb⟩ := obind_inv hb
    obtain ⟨ps, hps, hb⟩ := obind_inv hb
    cases hb
    obtain ⟨l, hl, h⟩ := vbind_inv h
    obtain ⟨it, zv, h1, h2, h3, h4, h5, _⟩ := hc.zero t z hz
    obtain ⟨ie, hie, e0⟩ := hc.size _ _ hs
    refine .now h hf fun E' ρ hE hR => ?_
    rw [ops_build ho] at hR
    obtain ⟨xs', e1, e2⟩ := build_sound (place' := fun i => some (i * ie.size, ie.size)) (fun i p hp => by rw [e0]; exact hp) hps hl (h5 E') hR
    refine ⟨_, den_agg_of e1, fun w => ?_⟩
    have hex : (execOp ρ o).run X.P w = ((Instr.build t (parts.map fun (i, x) => (i, ρ x))) >>= fun v => pure (Next.value v) : Sem Next).run X.P w := by simp only [execOp, ho]
    rw [hex]
    have := run_build (P := X.P) w t (parts.map fun (i, x) => (i, ρ x)) xs'.toArray (by simp only [Program.built, h1, hu, h2, hie]; simpa using e2)
    simp [this]
  · cases hb

/-! ### Places -/
theorem den_bound {i : Nat} {P : Program} {kd : IntKind} {x : Value} (h : x = .int kd i) (w : World) : (asIntOf x).run P w = .ok (kd, (i : Int)) w := by subst h; rfl
theorem xFadr_out (hc : CxOK X K w0) {s : TypeId} {x : Operand} {fa : Array Field} {f : Nat} {fl : Field} {n : Nat} {b : BO} (hb : cO x = some b) (hd : X.cx.und.get s = some (.struct fa)) (hfl : fa[f]? = some fl) (hn : X.cx.size.get fl.type = some (n + 1)) (ho : o.op = .fieldAddr s x f)
    (h : (xFadr fl.offset st k (ev tm b)).holds Θ E.va R) (hf : FOK E.va st.facts) : ValOut X Θ R E o tm st k := by
  obtain ⟨a, ha, h⟩ := vbind_inv h
  rw [natK_eq] at h
  have hp := asPtr_inv ha
  refine .now h hf fun E' ρ hE hR => ?_
  have hx := hR.get (x := x) (by rw [ho]; simp [Op.operands]) hb
  rw [hp] at hx
  obtain ⟨ad, had, e0⟩ := den_ptr hx
  refine ⟨_, den_ptr_of (aden_add (b := a.b) (off := a.off) had fl.offset), fun w => ?_⟩
  simp [execOp, ho, e0, Instr.fieldAt, hc.und' hd, hfl, Instr.sureAddr, fieldPlace, hc.size' hn]
theorem xFld_out (hc : CxOK X K w0) {s : TypeId} {x : Operand} {fa : Array Field} {f : Nat} {fl : Field} {g : Option Nat} {b : BO} (hb : cO x = some b) (hd : X.cx.und.get s = some (.struct fa)) (hfl : fa[f]? = some fl) (hg : aggN X.cx.und X.cx.size fl.type = some g) (ho : o.op = .field s x f)
    (h : (xFld g fl.offset st k (ev tm b)).holds Θ E.va R) (hf : FOK E.va st.facts) : ValOut X Θ R E o tm st k := by
  obtain ⟨l, hl, h⟩ := vbind_inv h
  obtain ⟨v, hv, h⟩ := outK_inv h
  have hp := asAgg_inv hl
  refine .now h hf fun E' ρ hE hR => ?_
  have hx := hR.get (x := x) (by rw [ho]; simp [Op.operands]) hb
  rw [hp] at hx
  obtain ⟨xs, hxs, e0⟩ := den_agg hx
  obtain ⟨y, h1, h2⟩ := part_sound hc hg hv hxs
  exact ⟨y, h1, fun w => by simp [execOp, ho, e0, Instr.field, hc.und' hd, hfl, Go.asAgg, h2]⟩
theorem elem_den {E : Env} {a : AAddr} {ad : Addr} (had : aden E a = some ad) (i es : Nat) : (AV.ptr (some ⟨a.b, Nat.add a.off (Nat.mul i es)⟩)).den E = some (.pointer (some (ad.add (i * es)))) :=
  den_ptr_of (aden_add (b := a.b) (off := a.off) had (i * es))
theorem xIadrA_out (hc : CxOK X K w0) (hO : Oks E tm) {t e : TypeId} {n es : Nat} {x i : Operand} {bx bi : BO} (hx : cO x = some bx) (hi : cO i = some bi) (hd : X.cx.und.get t = some (.array n e)) (hs : X.cx.size.get e = some es) (ho : o.op = .indexAddr t x i)
    (h : (xIadrA n es (ev tm bi) st k (ev tm bx)).holds Θ E.va R) (hf : FOK E.va st.facts) : ValOut X Θ R E o tm st k := by
  obtain ⟨a, ha, h⟩ := vbind_inv h
  cases hw : wildP n es a st (ev tm bi) with
  | some p =>
    rw [hw] at h
    unfold wildP at hw
    split at hw
    · rename_i kd t hev
      obtain ⟨hc', hw2⟩ := bif_some hw
      clear hw
      simp only [Bool.and_eq_true, blt_iff, beq_iff, decide_eq_true_eq] at hc'
      obtain ⟨_, rfl, hoff, hin⟩ := hc'
      split at hw2
      · rename_i k' hk'
        cases hw2
        have hov := hO.ev hi
        rw [hev] at hov
        obtain ⟨m, hm1, _, hm3⟩ := toT_inv (v := .sym kd t) rfl hov
        obtain ⟨hm0, hmn⟩ := inUB_ok hin hf hm1
        obtain ⟨j, rfl⟩ := Int.eq_ofNat_of_zero_le hm0
        refine ValOut.now h hf fun E' ρ hE hR => ?_
        have hx := hR.get (x := x) (by rw [ho]; simp [Op.operands]) hx
        have hi' := hR.get (x := i) (by rw [ho]; simp [Op.operands]) hi
        rw [hev] at hi'
        have hi := hm3 E' _ hE hi'
        rw [asPtr_inv ha] at hx
        obtain ⟨ad, had, e0⟩ := den_ptr hx
        have haa : a = ⟨.r k', 0⟩ := by obtain ⟨ab, ao⟩ := a; simp only at hk' hoff; rw [hk', hoff]
        rw [haa] at had
        obtain ⟨p, hp, rfl⟩ := aden_r had
        refine ⟨.pointer (some ⟨p.1, j + p.2, none⟩), ?_, fun w => ?_⟩
        · simp [AV.den, hp, ev_mono hE.va hm1]
        · simp [execOp, ho, e0, hi, Instr.indexAt, asIntOf, hc.und' hd, Instr.sureAddr, hc.size' hs]
          have : j < n := by omega
          simp [this, Addr.add]
          by_cases ej : j = 0
          · rw [if_pos ej, ej, Nat.zero_add]
          · rw [if_neg ej, Nat.add_comm]
      · cases hw2
    · cases hw
  | none =>
  rw [hw] at h
  obtain ⟨j, f, hj, hf', h, kd, hval⟩ := idxK_inv h hf (hO.ev hi)
  simp only [elemK, natK_eq] at h
  refine ⟨_, f, h, hf', fun E' ρ hE hR => ?_⟩
  have hx := hR.get (x := x) (by rw [ho]; simp [Op.operands]) hx
  have hi := hval E' _ hE (hR.get (x := i) (by rw [ho]; simp [Op.operands]) hi)
  rw [asPtr_inv ha] at hx
  obtain ⟨ad, had, e0⟩ := den_ptr hx
  exact ⟨_, elem_den had j es, fun w => by simp [execOp, ho, e0, hi, Instr.indexAt, asIntOf, hc.und' hd, Instr.sureAddr, hj, hc.size' hs]⟩
theorem xIadrS_out (hc : CxOK X K w0) (hO : Oks E tm) {t e : TypeId} {es : Nat} {x i : Operand} {bx bi : BO} (hx : cO x = some bx) (hi : cO i = some bi) (hd : X.cx.und.get t = some (.slice e)) (hs : X.cx.size.get e = some es) (ho : o.op = .indexAddr t x i)
    (h : (xIadrS es (ev tm bi) st k (ev tm bx)).holds Θ E.va R) (hf : FOK E.va st.facts) : ValOut X Θ R E o tm st k := by
  unfold xIadrS at h
  split at h
  · rename_i a n c hev
    obtain ⟨j, f, hj, hf', h, kd, hval⟩ := idxK_inv h hf (hO.ev hi)
    simp only [elemK, natK_eq] at h
    refine ⟨_, f, h, hf', fun E' ρ hE hR => ?_⟩
    have hx := hR.get (x := x) (by rw [ho]; simp [Op.operands]) hx
    have hi := hval E' _ hE (hR.get (x := i) (by rw [ho]; simp [Op.operands]) hi)
    rw [hev] at hx
    rcases den_slice_inv hx with ⟨h, _⟩ | ⟨p, ad, cp, e1, had, _, _, e0⟩
    · cases h
    · cases e1
      exact ⟨_, elem_den had j es, fun w => by simp [execOp, ho, e0, hi, Instr.indexAt, asIntOf, hc.und' hd, hj, hc.size' hs]⟩
  · exact h.elim
theorem xIdxA_out (hc : CxOK X K w0) (hO : Oks E tm) {t e : TypeId} {n es : Nat} {g : Option Nat} {x i : Operand} {bx bi : BO} (hx : cO x = some bx) (hi : cO i = some bi) (hd : X.cx.und.get t = some (.array n e)) (hs : X.cx.size.get e = some es) (hg : aggN X.cx.und X.cx.size e = some g) (ho : o.op = .index t x i)
    (h : (xIdxA n es g (ev tm bi) st k (ev tm bx)).holds Θ E.va R) (hf : FOK E.va st.facts) : ValOut X Θ R E o tm st k := by
  obtain ⟨l, hl, h⟩ := vbind_inv h
  obtain ⟨j, f, hj, hf', h, kd, hval⟩ := idxK_inv h hf (hO.ev hi)
  obtain ⟨v, hv, h⟩ := outK_inv h
  refine ⟨_, f, h, hf', fun E' ρ hE hR => ?_⟩
  have hx := hR.get (x := x) (by rw [ho]; simp [Op.operands]) hx
  have hi := hval E' _ hE (hR.get (x := i) (by rw [ho]; simp [Op.operands]) hi)
  rw [asAgg_inv hl] at hx
  obtain ⟨xs, hxs, e0⟩ := den_agg hx
  obtain ⟨y, h1, h2⟩ := part_sound hc hg hv hxs
  rw [natMul] at h2
  exact ⟨y, h1, fun w => by simp [execOp, ho, e0, hi, Instr.index, asIntOf, hc.und' hd, hj, hc.size' hs, h2]⟩
theorem bytesOf_get {s : List Nat} {i c : Nat} (h : s[i]? = some c) (hc : c < 256) : ∃ b : UInt8, (bytesOf s)[i]? = some b ∧ b.toNat = c := by
  have hlt : i < (bytesOf s).size := by rw [bytesOf_size]; exact (List.getElem?_eq_some_iff.1 h).1
  refine ⟨UInt8.ofNat c, ?_, toU8 hc⟩
  have h2 : (s.map UInt8.ofNat).toArray[i]? = some (UInt8.ofNat c) := by simp [h]
  have h3 : (bytesOf s).data[i]? = some (UInt8.ofNat c) := h2
  rw [getElem?_pos (bytesOf s) i hlt]
  have h4 := (Array.getElem?_eq_some_iff.1 h3).2
  rw [← h4]; rfl
theorem xIdxS_out (hc : CxOK X K w0) (hO : Oks E tm) {t : TypeId} {x i : Operand} {bx bi : BO} (hx : cO x = some bx) (hi : cO i = some bi) (hd : X.cx.und.get t = some .string) (ho : o.op = .index t x i)
    (h : (xIdxS (ev tm bi) st k (ev tm bx)).holds Θ E.va R) (hf : FOK E.va st.facts) : ValOut X Θ R E o tm st k := by
  unfold xIdxS at h
  split at h
  · rename_i n s hev
    obtain ⟨j, f, hj, hf', h, kd, hval⟩ := idxK_inv h hf (hO.ev hi)
    obtain ⟨v, hv, h⟩ := outK_inv h
    refine ⟨_, f, h, hf', fun E' ρ hE hR => ?_⟩
    have hx := hR.get (x := x) (by rw [ho]; simp [Op.operands]) hx
    have hi := hval E' _ hE (hR.get (x := i) (by rw [ho]; simp [Op.operands]) hi)
    rw [hev] at hx
    obtain ⟨hn, hs, e0⟩ := den_str hx
    rw [getL_eq] at hv
    cases hc' : s[j]? with
    | none => rw [hc'] at hv; cases hv
    | some c =>
      rw [hc'] at hv
      cases hv
      have hlt := hs c (List.mem_of_getElem? hc')
      obtain ⟨b, hb1, hb2⟩ := bytesOf_get hc' hlt
      refine ⟨_, den_int_of (by simp only [modOf]; exact hlt), fun w => ?_⟩
      have e3 : sgn .u8 c = (c : Int) := sgn_nat .u8 (by simp only [halfOf]; exact hlt)
      simp [execOp, ho, e0, hi, Instr.index, asIntOf, hc.und' hd, hb1, hb2, e3]
  · exact h.elim

/-! ### Slices -/
/-- What a bound is. -/
def BndR (ρ : Operand → Value) (d i : Nat) (lo : Option Operand) : Prop := (lo = none ∧ i = d) ∨ ∃ y kd, lo = some y ∧ ρ y = .int kd i
theorem bnd_of {d i : Nat} {lo : Option Operand} (h : (lo = none ∧ i = d) ∨ ∃ y b kd, lo = some y ∧ cO y = some b ∧ ∀ E' x, E.Le E' → (ev tm b).den E' = some x → x = .int kd i) {E' : Env} (hE : E.Le E') {ρ : Operand → Value} {l : List Operand} (hR : Rd E' tm ρ l)
    (hm : ∀ y, lo = some y → y ∈ l) : BndR ρ d i lo := by
  rcases h with h | ⟨y, b, kd, e1, e2, e3⟩
  · exact .inl h
  · exact .inr ⟨y, kd, e1, e3 E' _ hE (hR y (hm y e1) b e2)⟩
theorem run_bound {P : Program} {i m : Nat} {kd : IntKind} (hi : i ≤ m) (c : BoundsCode) (w : World) : (Instr.sliceBound (.int kd i) m c).run P w = .ok i w := by
  simp [Instr.sliceBound, asIntOf, hi]
theorem run_bounds {P : Program} {ρ : Operand → Value} {b : Bool} {n c l h m : Nat} {lo hi mx : Option Operand} (hl : BndR ρ 0 l lo) (hh : BndR ρ n h hi) (hm : BndR ρ c m mx) (hhm : mx.isSome = true → hi.isSome = true) (h1 : l ≤ h) (h2 : h ≤ m) (h3 : m ≤ c) (w : World) :
    (Instr.sliceBounds b n c (lo.map ρ) (hi.map ρ) (mx.map ρ)).run P w = .ok (l, h, m) w := by
  rcases hm with ⟨rfl, rfl⟩ | ⟨z, kz, rfl, hz⟩
  · rcases hl with ⟨rfl, rfl⟩ | ⟨x, kx, rfl, hx⟩ <;> rcases hh with ⟨rfl, rfl⟩ | ⟨y, ky, rfl, hy⟩ <;> simp only [Instr.sliceBounds, Option.map_none, Option.map_some, Sem.run_bind, Sem.run_pure, Result.andThen_ok, *] <;>
      first | rfl | (rw [run_bound (by assumption)]; first | rfl | (simp only [Result.andThen_ok]; rw [run_bound (by assumption)]; rfl))
  · rcases hh with ⟨rfl, rfl⟩ | ⟨y, ky, rfl, hy⟩
    · simp at hhm
    · rcases hl with ⟨rfl, rfl⟩ | ⟨x, kx, rfl, hx⟩
      · simp only [Instr.sliceBounds, Option.map_none, Option.map_some, Sem.run_bind, Sem.run_pure, hy, hz, run_bound h2, run_bound h3, Result.andThen_ok]
      · simp only [Instr.sliceBounds, Option.map_some, Sem.run_bind, Sem.run_pure, hx, hy, hz, run_bound h1, run_bound h2, run_bound h3, Result.andThen_ok]
end
end Go.Sy
/-! Slices; the others. -/
namespace Go.Sy
section
variable {X : Tabs} {K : Nat → Prop} {w0 : World} {E : Env} {st : St} {w : World} {Θ : Pred} {R : List Back} {tm : Tm} {k : Kt} {o : Oper}

theorem ops_slice {t : TypeId} {x : Operand} {lo hi mx : Option Operand} (ho : o.op = .slice t x lo hi mx) : x ∈ o.op.operands.toList ∧ (∀ y, lo = some y → y ∈ o.op.operands.toList) ∧ (∀ y, hi = some y → y ∈ o.op.operands.toList) ∧ (∀ y, mx = some y → y ∈ o.op.operands.toList) := by
  rw [ho]
  refine ⟨by simp [Op.operands], fun y h => ?_, fun y h => ?_, fun y h => ?_⟩ <;> subst h <;> simp [Op.operands]
theorem isNo_some {lo : Option Operand} {b : Option BO} (h : cOo lo = some b) : isNo b = lo.isNone := by
  cases lo with
  | none => cases h; rfl
  | some y => obtain ⟨v, _, e⟩ := obind_inv h; cases e; rfl
/-- All bounds of a slice expression. -/
theorem bnds_inv {d m : Nat} {lo hi : Option Operand} {lb hb : Option BO} {kk : Nat → Nat → St → VC} (h : (bndK tm d m st (fun h st => bndK tm 0 h st (fun l st => kk l h st) lb) hb).holds Θ E.va R) (hf : FOK E.va st.facts) (hO : Oks E tm)
    (hlo : cOo lo = some lb) (hhi : cOo hi = some hb) :
    ∃ l hh f, FOK E.va f ∧ (kk l hh (st.withF f)).holds Θ E.va R ∧ ∀ E' ρ os, E.Le E' → Rd E' tm ρ os → (∀ y, lo = some y → y ∈ os) → (∀ y, hi = some y → y ∈ os) → BndR ρ 0 l lo ∧ BndR ρ d hh hi := by
  obtain ⟨hh, f, _, hf1, h, hv⟩ := bndK_inv h hf hO hhi
  obtain ⟨l, g, _, hf2, h, lv⟩ := bndK_inv h (by rw [withF_facts]; exact hf1) hO hlo
  rw [withF_withF] at h
  exact ⟨l, hh, g, hf2, h, fun E' ρ os hE hR m1 m2 => ⟨bnd_of lv hE hR m1, bnd_of hv hE hR m2⟩⟩
theorem mkSl_eq (a : Option AAddr) (n : Nat) (c : Cap) : mkSl k st a n c = k (.slice a n c) st := by
  cases a with
  | none => rfl
  | some a => obtain ⟨b, off⟩ := a; show natK off (fun o => k (.slice (some ⟨b, o⟩) n c) st) = _; rw [natK_eq]
theorem cut_den {E : Env} {y : AAddr} {ad : Addr} (had : aden E y = some ad) {l h m es : Nat} (h1 : l ≤ h) (h2 : h ≤ m) :
    (AV.slice (bif_ (Nat.beq m l) (some y) (addO (some y) (Nat.mul l es))) (Nat.sub h l) (.k (Nat.sub m l))).den E = some (.slice (some (if m = l then ad else ad.add (l * es))) (h - l) (m - l)) := by
  rw [beq_iff]
  by_cases e : m = l
  · rw [decide_eq_true e, bif_true, if_pos e]
    simp only [AV.den, had, cden, natSub]
    rw [if_pos (by omega)]
  · rw [decide_eq_false e, bif_false, if_neg e]
    have := aden_add (b := y.b) (off := y.off) had (l * es)
    simp only [addO, AV.den, natAdd, natMul, this, cden, natSub]
    rw [if_pos (by omega)]
/-- The run of a slice expression of a slice. -/
theorem run_slS {P : Program} {t e : TypeId} {es n c l h m : Nat} {lo hi mx : Option Operand} {ρ : Operand → Value} {x : Operand} {a : Option Addr} {w : World} (hu : P.underlying t = some (.slice e)) (hs : (sizeOf e).run P w = .ok es w) (hx : ρ x = .slice a n c)
    (hb : (Instr.sliceBounds true n c (lo.map ρ) (hi.map ρ) (mx.map ρ)).run P w = .ok (l, h, m) w) (ho : o.op = .slice t x lo hi mx) : (execOp ρ o).run P w = .ok (.value (.slice (if m = l then a else a.map (·.add (l * es))) (h - l) (m - l))) w := by
  simp [execOp, ho, hx, Instr.sliceAt, run_underlying hu, Instr.slice, hb, hs]
theorem ble2 {a b c : Nat} (h : (Nat.ble a b && Nat.ble b c) = true) : a ≤ b ∧ b ≤ c := by simpa [ble_iff] using h
theorem ble3 {a b c d : Nat} (h : (Nat.ble a b && (Nat.ble b c && Nat.ble c d)) = true) : a ≤ b ∧ b ≤ c ∧ c ≤ d := by simpa [ble_iff] using h
theorem xSlS_out (hc : CxOK X K w0) (hS : StRel X K w0 E st w) (hO : Oks E tm) {t e : TypeId} {es : Nat} {x : Operand} {lo hi mx : Option Operand} {bx : BO} {lb hb mb : Option BO} (hx : cO x = some bx) (hlo : cOo lo = some lb) (hhi : cOo hi = some hb) (hmx : cOo mx = some mb)
    (hd : X.cx.und.get t = some (.slice e)) (hs : X.cx.size.get e = some es) (hmh : mx.isSome = true → hi.isSome = true) (ho : o.op = .slice t x lo hi mx)
    (h : (xSlS tm es st k lb hb mb (ev tm bx)).holds Θ E.va R) : ValOut X Θ R E o tm st k := by
  have hf := hS.facts
  obtain ⟨mx0, mlo, mhi, mmx⟩ := ops_slice ho
  have hu := hc.und t _ hd
  obtain ⟨x0, hx0⟩ := hO.ev hx
  cases mx with
  | none =>
    cases hmx
    unfold xSlS at h
    simp only at h
    split at h
    · rename_i a n c hev
      obtain ⟨l, hh, f, hf', h, hbn⟩ := bnds_inv (kk := fun l h st => cutK es a c k l h c st) h hf hO hlo hhi
      obtain ⟨hcut, h⟩ := vif_inv h
      obtain ⟨h1, h2, _⟩ := ble3 hcut
      rw [natK_eq, natK_eq, mkSl_eq] at h
      refine ⟨_, f, h, hf', fun E' ρ hE hR => ?_⟩
      obtain ⟨bl, bh⟩ := hbn E' ρ _ hE hR mlo mhi
      have hxv := hR.get mx0 hx
      rw [hev] at hxv
      rcases den_slice_inv hxv with ⟨rfl, rfl, e2, e0⟩ | ⟨y, ad, cp, rfl, had, e2, _, e0⟩
      · cases e2
        have e3 : hh = 0 := by omega
        have e4 : l = 0 := by omega
        subst e3; subst e4
        refine ⟨.slice none 0 0, rfl, fun w => ?_⟩
        have := run_slS (o := o) hu (hc.size' hs w) e0 (run_bounds (P := X.P) (b := true) bl bh (.inl ⟨rfl, rfl⟩) (by simp) h1 h2 (Nat.le_refl _) w) ho
        simpa using this
      · cases e2
        refine ⟨_, cut_den had h1 h2, fun w => ?_⟩
        have := run_slS (o := o) hu (hc.size' hs w) e0 (run_bounds (P := X.P) (b := true) bl bh (.inl ⟨rfl, rfl⟩) (by simp) h1 h2 (Nat.le_refl _) w) ho
        rw [this]; congr 3
        split <;> rfl
    · rename_i a i n d hev
      obtain ⟨hh, f, hb1, hf1, h, hv⟩ := bndK_inv h hf hO hhi
      obtain ⟨l, g, hb2, hf2, h, lv⟩ := bndK_inv h (by rw [withF_facts]; exact hf1) hO hlo
      rw [withF_withF] at h
      refine ⟨_, g, h, hf2, fun E' ρ hE hR => ?_⟩
      have bl := bnd_of lv hE hR mlo
      have bh := bnd_of hv hE hR mhi
      have hxv := hR.get mx0 hx
      rw [hev] at hxv
      obtain ⟨ad, c, g1, g2, g3, e0⟩ := den_sl0 hxv
      have e3 : hh = 0 := by omega
      have e4 : l = 0 := by omega
      subst e3; subst e4
      refine ⟨_, hxv, fun w => ?_⟩
      rw [run_slS (o := o) hu (hc.size' hs w) e0 (run_bounds (P := X.P) (b := true) (m := c - n) bl bh (.inl ⟨rfl, rfl⟩) (by simp) (Nat.le_refl _) (Nat.zero_le _) (Nat.le_refl _) w) ho, e0]
      congr 2
      simp [Addr.add]
    · rename_i a n i sub hev
      rw [hev] at hx0
      rw [natK_eq] at h
      obtain ⟨y, c, hya, hc0, hsub, hn⟩ : ∃ y c, a = some y ∧ E.caps[i]? = some c ∧ sub ≤ c ∧ n ≤ c - sub := by
        rcases den_slice_inv hx0 with ⟨_, _, e2, _⟩ | ⟨y, _, cp, e1, _, e2, e3, _⟩
        · cases e2
        · have e2 : cden E (.u i sub) = some cp := e2
          simp only [cden] at e2
          split at e2
          · rename_i c hcc
            split at e2
            · cases e2; exact ⟨y, c, e1, hcc, by assumption, e3⟩
            · cases e2
          · cases e2
      have hku := knownU_ok hS (es := es) (a := a) hc0 (show n + sub ≤ c by omega)
      generalize knownU es i sub n st a = mm at h hku
      obtain ⟨l, hh, f, hf', h, hbn⟩ := bnds_inv (kk := fun l h st => cutU es a mm i sub k l h st) h hf hO hlo hhi
      obtain ⟨hcut, h⟩ := vif_inv h
      obtain ⟨h1, h2⟩ := ble2 hcut
      have real : ∀ E' ρ, E.Le E' → Rd E' tm ρ o.op.operands.toList → ∃ ad cp, aden E' y = some ad ∧ E'.caps[i]? = some c ∧ cp = c - sub ∧ (∀ w, (execOp ρ o).run X.P w = .ok (.value (.slice (if cp = l then some ad else some (ad.add (l * es))) (hh - l) (cp - l))) w) := by
        intro E' ρ hE hR
        obtain ⟨bl, bh⟩ := hbn E' ρ _ hE hR mlo mhi
        have hxv := hR.get mx0 hx
        rw [hev, hya] at hxv
        rcases den_slice_inv hxv with ⟨e, _⟩ | ⟨y', ad, cp, e1, had, e2, _, e0⟩
        · cases e
        · cases e1
          have hc1 := hE.caps _ _ hc0
          have e2 : cden E' (.u i sub) = some cp := e2
          simp only [cden, hc1, if_pos hsub, Option.some.injEq] at e2
          refine ⟨ad, cp, had, hc1, e2.symm, fun w => ?_⟩
          rw [run_slS (o := o) hu (hc.size' hs w) e0 (run_bounds (P := X.P) (b := true) bl bh (.inl ⟨rfl, rfl⟩) (by simp) h1 (by omega) (Nat.le_refl _) w) ho]
          congr 3
      rcases bif_holds h with ⟨hl, h⟩ | ⟨hl, h⟩
      · rw [natK_eq, natK_eq, mkSl_eq] at h
        refine ⟨_, f, h, hf', fun E' ρ hE hR => ?_⟩
        obtain ⟨ad, cp, had, hc1, hcp, hrun⟩ := real E' ρ hE hR
        have hl' : l = 0 ∨ l < mm := by
          rw [Bool.or_eq_true] at hl
          exact hl.imp (fun h => by rwa [beq_iff, decide_eq_true_eq] at h) (fun h => by rwa [blt_iff, decide_eq_true_eq] at h)
        refine ⟨.slice (some (ad.add (l * es))) (hh - l) (cp - l), ?_, fun w => ?_⟩
        · have had' := aden_add (b := y.b) (off := y.off) had (l * es)
          rw [hya]
          simp only [addO, AV.den, natAdd, natMul, had', cden, hc1, natSub]
          rw [if_pos (by omega)]
          simp only []
          rw [if_pos (by omega)]
          congr 2; omega
        · rw [hrun w]
          congr 2
          by_cases e : cp = l
          · have e1 : l = 0 := by omega
            rw [if_pos e, e1]; simp [Addr.add]
          · rw [if_neg e]
      · rw [hya] at h
        have h : (newSl0 es i sub l k (st.withF f) y).holds Θ E.va R := h
        unfold newSl0 at h
        rw [natK_eq, natK_eq, natK_eq] at h
        refine ⟨_, f, h, hf', fun E' ρ hE hR => ?_⟩
        obtain ⟨ad, cp, had, hc1, hcp, hrun⟩ := real E' ρ hE hR
        have hl' : l = mm := by
          rw [Bool.or_eq_false_iff, blt_iff, decide_eq_false_iff_not] at hl
          omega
        refine ⟨.slice (some (if c = sub + l then ad else ad.add (l * es))) 0 (c - (sub + l)), ?_, fun w => ?_⟩
        · have : aden E' ⟨y.b, y.off⟩ = some ad := had
          simp only [AV.den, this, hc1, natAdd, natMul]
          rw [if_pos (by omega)]
        · rw [hrun w]
          congr 2
          have e5 : hh - l = 0 := by omega
          rw [e5]
          have e6 : cp - l = c - (sub + l) := by omega
          rw [e6]
          by_cases e : cp = l
          · rw [if_pos e, if_pos (by omega)]
          · rw [if_neg e, if_neg (by omega)]
    · exact h.elim
  | some my =>
    obtain ⟨b, hb', e⟩ := obind_inv hmx
    cases e
    have common : ∀ (a : Option AAddr) (n top : Nat) (cp : Cap), ev tm bx = .slice a n cp → (∀ c, cden E cp = some c → n ≤ c → top ≤ c) → (idxK (ev tm b) (Nat.succ top) st fun m st => bndK tm n m st (fun h st => bndK tm 0 h st (fun l st => vif (Nat.ble l h && (Nat.ble h m && Nat.ble m top)) (natK (Nat.sub h l) fun x => natK (Nat.sub m l) fun c => mkSl k st (bif_ (Nat.beq m l) a (addO a (Nat.mul l es))) x (.k c))) lb) hb).holds Θ E.va R →
        ValOut X Θ R E o tm st k := by
      intro a n top cp hev htop h
      obtain ⟨m, f, hm, hf1, h, kd, hmv⟩ := idxK_inv h hf (hO.ev hb')
      obtain ⟨l, hh, g, hf2, h, hbn⟩ := bnds_inv (kk := fun l h st => vif (Nat.ble l h && (Nat.ble h m && Nat.ble m top)) (natK (Nat.sub h l) fun x => natK (Nat.sub m l) fun c => mkSl k st (bif_ (Nat.beq m l) a (addO a (Nat.mul l es))) x (.k c))) h (by rw [withF_facts]; exact hf1) hO hlo hhi
      rw [withF_withF] at h
      obtain ⟨hcut, h⟩ := vif_inv h
      obtain ⟨h1, h2, h3⟩ := ble3 hcut
      rw [natK_eq, natK_eq, mkSl_eq] at h
      refine ⟨_, g, h, hf2, fun E' ρ hE hR => ?_⟩
      obtain ⟨bl, bh⟩ := hbn E' ρ _ hE hR mlo mhi
      have hbm : ∀ c, BndR ρ c m (some my) := fun c => .inr ⟨my, kd, rfl, hmv E' _ hE (hR my (mmx my rfl) b hb')⟩
      have hxv := hR.get mx0 hx
      rw [hev] at hxv hx0
      rcases den_slice_inv hx0 with ⟨e1, e2, e3, _⟩ | ⟨y, _, c, e1, _, e3, hnc, _⟩
      · subst e1 e2 e3
        have ht := htop 0 rfl (Nat.le_refl _)
        have e5 : m = 0 := by omega
        have e3 : hh = 0 := by omega
        have e4 : l = 0 := by omega
        subst e5; subst e3; subst e4
        rcases den_slice_inv hxv with ⟨_, _, _, e0⟩ | ⟨_, _, _, e, _⟩
        · refine ⟨.slice none 0 0, rfl, fun w => ?_⟩
          have := run_slS (o := o) hu (hc.size' hs w) e0 (run_bounds (P := X.P) (b := true) bl bh (hbm _) hmh (Nat.le_refl _) (Nat.le_refl _) (Nat.le_refl _) w) ho
          simpa using this
        · cases e
      · subst e1
        have ht := htop c e3 hnc
        have e3' : cden E' cp = some c := cden_mono hE e3
        rcases den_slice_inv hxv with ⟨e, _⟩ | ⟨y', ad, c', e1, had, e2, _, e0⟩
        · cases e
        · cases e1
          rw [e3'] at e2; cases e2
          refine ⟨_, cut_den had h1 h2, fun w => ?_⟩
          have := run_slS (o := o) hu (hc.size' hs w) e0 (run_bounds (P := X.P) (b := true) bl bh (hbm _) hmh h1 h2 (by omega) w) ho
          rw [this]; congr 3
          split <;> rfl
    unfold xSlS at h
    simp only at h
    split at h
    · rename_i a n c hev
      exact common a n c _ hev (fun c' h1 _ => by cases h1; exact Nat.le_refl _) h
    · rename_i a n i sub hev
      exact common a n n _ hev (fun c' _ h => h) h
    · exact h.elim
theorem xSlA_out (hc : CxOK X K w0) (hS : StRel X K w0 E st w) (hO : Oks E tm) {t e : TypeId} {n es : Nat} {x : Operand} {lo hi mx : Option Operand} {bx : BO} {lb hb mb : Option BO} (hx : cO x = some bx) (hlo : cOo lo = some lb) (hhi : cOo hi = some hb) (hmx : cOo mx = some mb)
    (hd : X.cx.und.get t = some (.array n e) ∨ ∃ p, X.cx.und.get t = some (.pointer p) ∧ X.cx.und.get p = some (.array n e)) (hs : X.cx.size.get e = some es) (hmh : mx.isSome = true → hi.isSome = true) (ho : o.op = .slice t x lo hi mx)
    (h : (xSlA tm n es st k lb hb mb (ev tm bx)).holds Θ E.va R) : ValOut X Θ R E o tm st k := by
  have hf := hS.facts
  obtain ⟨mx0, mlo, mhi, mmx⟩ := ops_slice ho
  obtain ⟨a, ha, h⟩ := vbind_inv h
  obtain ⟨m, f, _, hf1, h, mv⟩ := bndK_inv h hf hO hmx
  obtain ⟨l, hh, g, hf2, h, hbn⟩ := bnds_inv (kk := fun l h st => cutA es a n k l h m st) h (by rw [withF_facts]; exact hf1) hO hlo hhi
  rw [withF_withF] at h
  obtain ⟨hcut, h⟩ := vif_inv h
  obtain ⟨h1, h2, h3⟩ := ble3 hcut
  rw [natK_eq, natK_eq, natK_eq] at h
  refine ⟨_, g, h, hf2, fun E' ρ hE hR => ?_⟩
  obtain ⟨bl, bh⟩ := hbn E' ρ _ hE hR mlo mhi
  have bm := bnd_of mv hE hR mmx
  have hxv := hR.get mx0 hx
  rw [asPtr_inv ha] at hxv
  obtain ⟨ad, had, e0⟩ := den_ptr hxv
  refine ⟨.slice (some (if m = l then ad else ad.add (l * es))) (hh - l) (m - l), ?_, fun w => ?_⟩
  · rw [beq_iff]
    by_cases e : m = l
    · rw [decide_eq_true e, bif_true, if_pos e]
      have : aden E' ⟨a.b, a.off⟩ = some ad := had
      simp only [AV.den, this, cden, natSub]
      rw [if_pos (by omega)]
    · rw [decide_eq_false e, bif_false, if_neg e]
      have := aden_add (b := a.b) (off := a.off) had (l * es)
      simp only [AV.den, natAdd, natMul, this, cden, natSub]
      rw [if_pos (by omega)]
  · have hbs := run_bounds (P := X.P) (b := false) (n := n) (c := n) bl (by
      rcases bh with h | h
      · exact .inl h
      · exact .inr h) bm hmh h1 h2 h3 w
    rcases hd with hd | ⟨p, hd, hp⟩
    · simp [execOp, ho, e0, Instr.sliceAt, hc.und' hd, Instr.sureAddr, hbs, hc.size' hs]
    · simp [execOp, ho, e0, Instr.sliceAt, hc.und' hd, Instr.slice, asAddr, hc.und' hp, hbs, hc.size' hs]
theorem bytesOf_extract (s : List Nat) (l h : Nat) : (bytesOf s).extract l h = bytesOf ((s.drop l).take (h - l)) := by
  apply ByteArray.ext
  rw [ByteArray.data_extract]
  apply Array.ext'
  simp [bytesOf, List.map_take, List.map_drop]
theorem xSlT_out (hc : CxOK X K w0) (hS : StRel X K w0 E st w) (hO : Oks E tm) {t : TypeId} {x : Operand} {lo hi : Option Operand} {bx : BO} {lb hb : Option BO} (hx : cO x = some bx) (hlo : cOo lo = some lb) (hhi : cOo hi = some hb)
    (hd : X.cx.und.get t = some .string) (ho : o.op = .slice t x lo hi none)
    (h : (xSlT tm st k lb hb (ev tm bx)).holds Θ E.va R) : ValOut X Θ R E o tm st k := by
  have hf := hS.facts
  obtain ⟨mx0, mlo, mhi, _⟩ := ops_slice ho
  unfold xSlT at h
  split at h
  · rename_i n s hev
    obtain ⟨hh, f, hb1, hf1, h, hv⟩ := bndK_inv h hf hO hhi
    obtain ⟨l, g, hb2, hf2, h, lv⟩ := bndK_inv h (by rw [withF_facts]; exact hf1) hO hlo
    rw [withF_withF] at h
    obtain ⟨hcut, h⟩ := vif_inv h
    rw [ble_iff, decide_eq_true_eq] at hcut
    rw [natK_eq, takeL_eq, dropL_eq, natSub] at h
    refine ⟨_, g, h, hf2, fun E' ρ hE hR => ?_⟩
    have bl := bnd_of lv hE hR mlo
    have bh := bnd_of hv hE hR mhi
    have hxv := hR.get mx0 hx
    rw [hev] at hxv
    obtain ⟨hn, hs, e0⟩ := den_str hxv
    have hhn : hh ≤ n := by omega
    refine ⟨_, den_str_of (by simp; omega) (fun c hc => hs c (List.mem_of_mem_drop (List.mem_of_mem_take hc))), fun w => ?_⟩
    have hsz : (bytesOf s).size = n := by rw [bytesOf_size, hn]
    have hbs := run_bounds (P := X.P) (b := false) (n := n) (c := n) (m := n) bl bh (.inl ⟨rfl, rfl⟩) (by simp) hcut hhn (Nat.le_refl _) w
    rw [Option.map_none] at hbs
    simp [execOp, ho, e0, Instr.sliceAt, hc.und' hd, Instr.slice, hsz, hbs, bytesOf_extract]
  · exact h.elim
end
end Go.Sy
