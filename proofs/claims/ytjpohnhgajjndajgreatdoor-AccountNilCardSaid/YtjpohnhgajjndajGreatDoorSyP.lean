import Derived.Test.YtjpohnhgajjndajGreatDoorSyH
/-! Operations that leave memory as it is, whenever they come: operands. -/
namespace Go.Sy

/-- Operands' values. -/
def Rd (E : Env) (tm : Tm) (ρ : Operand → Value) (l : List Operand) : Prop := ∀ x ∈ l, ∀ b, cO x = some b → (ev tm b).den E = some (ρ x)
def Oks (E : Env) (tm : Tm) : Prop := ∀ t, okv E (slot tm (pth t))
theorem Rd.get {E : Env} {tm : Tm} {ρ : Operand → Value} {l : List Operand} (h : Rd E tm ρ l) {x : Operand} (hx : x ∈ l) {b : BO} (hb : cO x = some b) : (ev tm b).den E = some (ρ x) := h x hx b hb
theorem Oks.ev {E : Env} {tm : Tm} (h : Oks E tm) {x : Operand} {b : BO} (hb : cO x = some b) : okv E (ev tm b) := by
  cases x with
  | tmp t => cases hb; exact h t
  | const v =>
    obtain ⟨v', hv, e⟩ := obind_inv hb
    cases e
    exact ⟨_, den_ofVal hv⟩
  | «global» g => cases hb; exact ⟨_, den_ptr_of rfl⟩
  | func f => cases hb; exact ⟨_, rfl⟩
theorem Oks.mono {E E' : Env} (hE : E.Le E') {tm : Tm} (h : Oks E tm) : Oks E' tm := fun t => (h t).mono hE
theorem Oks.put {E : Env} {tm : Tm} (h : Oks E tm) {v : AV} (hv : okv E v) (d : Nat) : Oks E (Tr.put (pth d) tm (some v)) := by
  intro t
  by_cases e : d = t
  · subst e; rw [slot_put_same]; exact hv
  · rw [slot_put_other _ _ (fun h => e (pth_inj h))]; exact h t
/-- The values that an activation's operands have. -/
theorem Rd.act {E : Env} {tm : Tm} {a : Act} {l : List Operand} (h : ∀ t, Operand.tmp t ∈ l → (slot tm (pth t)).den E = some (a.tmps.getD t undef)) : Rd E tm a.eval l := by
  intro x hx b hb
  cases x with
  | tmp t => cases hb; exact h t hx
  | const v =>
    obtain ⟨v', hv, e⟩ := obind_inv hb
    cases e
    exact den_ofVal hv
  | «global» g => cases hb; exact den_ptr_of rfl
  | func f => cases hb; exact rfl
/-- Values for operands once all blocks are there. -/
theorem Oks.rd {E : Env} {tm : Tm} (h : Oks E tm) (l : List Operand) : ∃ ρ, Rd E.fill tm ρ l :=
  ⟨fun x => ((cO x).bind fun b => (Sy.ev tm b).den E.fill).getD undef, fun x _ b hb => by
    obtain ⟨y, hy⟩ := h.ev hb
    simp [hb, hy]⟩

section
variable {X : Tabs} {K : Nat → Prop} {w0 : World} {E : Env} {st : St} {w : World} {Θ : Pred} {R : List Back} {tm : Tm} {k : Kt} {o : Oper}

/-- It leaves memory as it is, and yields v's value whenever it comes. -/
def ValOut (X : Tabs) (Θ : Pred) (R : List Back) (E : Env) (o : Oper) (tm : Tm) (st : St) (k : Kt) : Prop :=
  ∃ v f, (k v (st.withF f)).holds Θ E.va R ∧ FOK E.va f ∧ ∀ E' ρ, E.Le E' → Rd E' tm ρ o.op.operands.toList → ∃ y, v.den E' = some y ∧ ∀ w, (execOp ρ o).run X.P w = .ok (.value y) w
theorem ValOut.now {v : AV} (hk : (k v st).holds Θ E.va R) (hf : FOK E.va st.facts) (h : ∀ E' ρ, E.Le E' → Rd E' tm ρ o.op.operands.toList → ∃ y, v.den E' = some y ∧ ∀ w, (execOp ρ o).run X.P w = .ok (.value y) w) : ValOut X Θ R E o tm st k :=
  ⟨v, st.facts, by rw [withF_self]; exact hk, hf, h⟩
theorem outK_inv {o : Option AV} (h : (outK st k o).holds Θ E.va R) : ∃ v, o = some v ∧ (k v st).holds Θ E.va R := by
  cases o with
  | none => exact h.elim
  | some v => exact ⟨v, rfl, h⟩
theorem asPtr_inv {v : AV} {x : AAddr} (h : asPtr v = some x) : v = .ptr (some x) := by
  unfold asPtr at h; split at h
  · cases h; rfl
  · cases h
theorem asAgg_inv {v : AV} {l : List AV} (h : asAgg v = some l) : v = .agg l := by
  unfold asAgg at h; split at h
  · cases h; rfl
  · cases h
theorem fieldsOf_inv {d : TypeDesc} {fs : List Field} (h : fieldsOf d = some fs) : ∃ f : Array Field, d = .struct f ∧ f.toList = fs := by
  unfold fieldsOf at h; split at h
  · cases h; exact ⟨_, rfl, rfl⟩
  · cases h
theorem halfLe (k : IntKind) : halfOf k ≤ 18446744073709551616 := by cases k <;> decide
/-- A number's value does not hang on where things are. -/
theorem toT_inv {v : AV} {kd : IntKind} {t : T} (h : toT v = some (kd, t)) (hv : okv E v) : ∃ n, t.ev E.va = some (.i n) ∧ (Lit.int kd n).wf = true ∧ ∀ E' x, E.Le E' → v.den E' = some x → x = .int kd n := by
  obtain ⟨x, hx⟩ := hv
  unfold toT at h
  split at h
  · cases h
    obtain ⟨h1, _⟩ := den_int hx
    exact ⟨_, rfl, sgn_wf _ h1, fun E' y _ hy => (den_int hy).2⟩
  · cases h
    obtain ⟨n, h1, h2, _⟩ := den_sym hx
    refine ⟨n, h1, h2, fun E' y hE hy => ?_⟩
    obtain ⟨m, g1, _, g3⟩ := den_sym hy
    have := ev_mono hE.va h1
    rw [g1] at this; cases this
    exact g3
  · cases h
theorem toT_int (k : IntKind) (u : Nat) : toT (.int k u) = some (k, .z (sgn k u)) := rfl
theorem cnd_inv {c : T} (hv : okv E (.cnd c)) : ∃ b, c.ev E.va = some (.b b) ∧ ∀ E' x, E.Le E' → (AV.cnd c).den E' = some x → x = .bool b := by
  obtain ⟨x, hx⟩ := hv
  obtain ⟨b, h1, _⟩ := den_cnd hx
  refine ⟨b, h1, fun E' y hE hy => ?_⟩
  obtain ⟨m, g1, g3⟩ := den_cnd hy
  have := ev_mono hE.va h1
  rw [g1] at this; cases this
  exact g3
theorem natOf_inv {v : AV} {n : Nat} (h : natOf v = some n) (hv : okv E v) : ∃ kd, v = .int kd n ∧ sgn kd n = (n : Int) ∧ n < 18446744073709551616 := by
  obtain ⟨x, hx⟩ := hv
  unfold natOf at h; split at h
  · rename_i kd u
    have hu := (den_int hx).1
    cases hs : isS kd with
    | true =>
      rw [hs, bif_true] at h
      obtain ⟨h1, h2⟩ := bif_some h
      cases h2
      rw [blt_iff, decide_eq_true_eq] at h1
      exact ⟨kd, rfl, sgn_nat kd h1, Nat.lt_of_lt_of_le h1 (halfLe kd)⟩
    | false =>
      rw [hs, bif_false] at h
      cases h
      refine ⟨kd, rfl, sgn_nat kd ?_, ?_⟩
      · cases kd <;> first | (cases hs; done) | exact hu
      · cases kd <;> first | (cases hs; done) | (simp only [modOf] at hu; omega)
  · cases h
/-- A place. -/
theorem enum_inv {t : T} {x : Int} : ∀ {n : Nat} {st : St} {kk : Nat → St → VC}, (enum t n kk st).holds Θ E.va R → FOK E.va st.facts → t.ev E.va = some (.i x) → ∃ (i : Nat) (f : List T), x = (i : Int) ∧ i < n ∧ FOK E.va f ∧ (kk i (st.withF f)).holds Θ E.va R
  | 0, st, kk, h, _, _ => h.elim
  | n + 1, st, kk, h, hf, ht => by
    change (brK (.cmp .eql t (.z (.ofNat n))) st (kk n) (enum t n kk)).holds Θ E.va R at h
    obtain ⟨f, hf', h⟩ := brK_inv h hf (r := decide (x = (n : Int))) (by rw [cmp_ev ht rfl]; rfl)
    rcases h with ⟨h1, h2⟩ | ⟨h1, h2⟩
    · exact ⟨n, f, by simpa using h1, Nat.lt_succ_self _, hf', h2⟩
    · obtain ⟨i, g, h3, h4, h5, h6⟩ := enum_inv h2 (by rw [withF_facts]; exact hf') ht
      rw [withF_withF] at h6
      exact ⟨i, g, h3, Nat.lt_succ_of_lt h4, h5, h6⟩
theorem idxK_inv {v : AV} {n : Nat} {kk : Nat → St → VC} (h : (idxK v n st kk).holds Θ E.va R) (hf : FOK E.va st.facts) (hv : okv E v) :
    ∃ i f, i < n ∧ FOK E.va f ∧ (kk i (st.withF f)).holds Θ E.va R ∧ ∃ kd, ∀ E' x, E.Le E' → v.den E' = some x → x = .int kd i := by
  unfold idxK at h
  split at h
  · rename_i j u
    obtain ⟨u', hu, h⟩ := vbind_inv h
    obtain ⟨hlt, h⟩ := vif_inv h
    obtain ⟨kd, e1, e2, _⟩ := natOf_inv hu hv
    cases e1
    rw [blt_iff, decide_eq_true_eq] at hlt
    exact ⟨u, st.facts, hlt, hf, by rw [withF_self]; exact h, j, fun E' x _ hx => by rw [(den_int hx).2, e2]⟩
  · rename_i kd t
    obtain ⟨_, h⟩ := vif_inv h
    obtain ⟨x, ht, hw, hall⟩ := toT_inv (v := .sym kd t) rfl hv
    obtain ⟨h1, f1, hf1, h⟩ := needK_inv h hf (r := decide (0 ≤ x)) (by rw [cmp_ev ht rfl]; rfl)
    obtain ⟨h2, f2, hf2, h⟩ := needK_inv h (by rw [withF_facts]; exact hf1) (r := decide (x < (n : Int))) (by rw [cmp_ev ht rfl]; rfl)
    rw [withF_withF] at h
    obtain ⟨i, f, e, hi, hf3, h⟩ := enum_inv h (by rw [withF_facts]; exact hf2) ht
    rw [withF_withF] at h
    exact ⟨i, f, hi, hf3, h, kd, fun E' y hE hy => by rw [hall E' y hE hy, e]⟩
  · exact h.elim
/-- A slice's bound. -/
theorem bndK_inv {d m : Nat} {kk : Nat → St → VC} {lo : Option Operand} {lb : Option BO} (h : (bndK tm d m st kk lb).holds Θ E.va R) (hf : FOK E.va st.facts) (hO : Oks E tm) (hlo : cOo lo = some lb) :
    ∃ i f, (i ≤ m ∨ i = d) ∧ FOK E.va f ∧ (kk i (st.withF f)).holds Θ E.va R ∧ ((lo = none ∧ i = d) ∨ ∃ y b kd, lo = some y ∧ cO y = some b ∧ ∀ E' x, E.Le E' → (ev tm b).den E' = some x → x = .int kd i) := by
  cases lo with
  | none => cases hlo; exact ⟨d, st.facts, .inr rfl, hf, by rw [withF_self]; exact h, .inl ⟨rfl, rfl⟩⟩
  | some y =>
    obtain ⟨b, hb, e⟩ := obind_inv hlo
    cases e
    obtain ⟨i, f, h1, h2, h3, kd, h4⟩ := idxK_inv (v := ev tm b) h hf (hO.ev hb)
    exact ⟨i, f, .inl (by rw [natSucc] at h1; omega), h2, h3, .inr ⟨y, b, kd, rfl, hb, h4⟩⟩
theorem cOs_inv {l : List Operand} {bs : List BO} (h : cOs l = some bs) {E : Env} {ρ : Operand → Value} (hR : Rd E tm ρ l) : denL E (evs tm bs) = some (l.map ρ) := by
  induction l generalizing bs with
  | nil => cases h; rfl
  | cons x l ih =>
    change obind (cO x) (fun b => obind (cOs l) fun r => some (b :: r)) = some bs at h
    obtain ⟨b, hb, h⟩ := obind_inv h
    obtain ⟨r, hr, h⟩ := obind_inv h
    cases h
    exact denL_cons.2 ⟨_, _, hR x (by simp) b hb, ih hr fun y hy => hR y (List.mem_cons_of_mem _ hy), rfl⟩
end
end Go.Sy
