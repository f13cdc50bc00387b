import Derived.Test.YtjpohnhgajjndajGreatDoorSyG
/-! Statements whose order is drawn: where things stand. -/
namespace Go.Sy

/-! ### Values that are the same -/
theorem sameB_eq {a b : Bid} (h : sameB a b = true) : a = b := by
  cases a <;> cases b <;> first | (cases h; done) | (have := Nat.eq_of_beq_eq_true h; rw [this])
theorem sameC_eq {a b : Cap} (h : sameC a b = true) : a = b := by
  cases a <;> cases b <;> simp only [sameC, Bool.and_eq_true, beq_iff, decide_eq_true_eq] at h <;> first | (cases h; done) | skip
  · rw [h]
  · rw [h.1, h.2]
  · rw [T.beq_eq h]
theorem sameA_eq {a b : Option AAddr} (h : sameA a b = true) : a = b := by
  cases a <;> cases b <;> simp only [sameA, Bool.and_eq_true, beq_iff, decide_eq_true_eq] at h <;> first | (cases h; done) | rfl | skip
  rename_i x y
  obtain ⟨a, o⟩ := x
  obtain ⟨b, p⟩ := y
  have := sameB_eq h.1
  simp only at this
  have h2 : o = p := h.2
  rw [this, h2]
theorem sameO_eq {a b : Option Nat} (h : sameO a b = true) : a = b := by
  cases a <;> cases b <;> simp only [sameO, beq_iff, decide_eq_true_eq] at h <;> first | (cases h; done) | rfl | (rw [h])
theorem same_both : (∀ a b, AV.same a b = true → a = b) ∧ (∀ a b, sameL a b = true → a = b) := by
  apply AV.same.mutual_induct (motive_1 := fun a b => AV.same a b = true → a = b) (motive_2 := fun a b => sameL a b = true → a = b)
  all_goals intros
  all_goals rename_i h
  all_goals first | rfl | skip
  all_goals simp only [AV.same, sameL, Bool.and_eq_true, beq_iff, decide_eq_true_eq, bbeq_eq] at h
  all_goals first | (cases h; done) | skip
  case case1 => rw [h]
  case case2 => rw [kbeq_eq h.1, h.2]
  case case3 => rw [kbeq_eq h.1, T.beq_eq h.2]
  case case4 => rw [T.beq_eq h]
  case case5 =>
    have h2 := h.2
    rw [leqL_eq, decide_eq_true_eq] at h2
    rw [h.1, h2]
  case case6 => rw [sameA_eq h]
  case case7 => rw [sameA_eq h.1, h.2.1, sameC_eq h.2.2]
  case case10 => rw [sameO_eq h]
  case case11 ih => rw [ih h]
  case case12 => rw [h]
  case case13 => rw [h]
  case case14 =>
    have := sameA_eq h.1
    rw [Option.some.inj this, h.2.1, h.2.2.1, h.2.2.2]
  case case15 ih => rw [h.1, ih h.2]
  case case16 ih2 ih1 => rw [h.1, ih2 h.2.1, ih1 h.2.2]
  case case19 ih2 ih1 => rw [ih2 h.1, ih1 h.2]
theorem same_eq (a b : AV) (h : AV.same a b = true) : a = b := same_both.1 a b h

/-! ### Names' values, of what is done -/
noncomputable def wr (ops : List Oper) (t : Nat) : Option Nat := ops.findIdx? fun o => o.dst == some t
noncomputable def cur (ops : List Oper) (tm0 : Tm) (V : Nat → AV) (S : Nat → Bool) (t : Nat) : AV :=
  match wr ops t with
  | some j => if S j then V j else slot tm0 (pth t)
  | none => slot tm0 (pth t)
def upd {α : Type} (V : Nat → α) (i : Nat) (v : α) (j : Nat) : α := if j = i then v else V j
theorem upd_same {α : Type} (V : Nat → α) (i : Nat) (v : α) : upd V i v i = v := by simp [upd]
theorem upd_other {α : Type} (V : Nat → α) {i j : Nat} (v : α) (h : j ≠ i) : upd V i v j = V j := by simp [upd, h]
section
variable {ops : List Oper} {befs : List Nat} {tm0 : Tm} {V V' : Nat → AV} {S S' : Nat → Bool}
theorem wr_some {t j : Nat} (h : wr ops t = some j) : ∃ o, ops[j]? = some o ∧ o.dst = some t := by
  obtain ⟨h1, h2, _⟩ := List.findIdx?_eq_some_iff_getElem.1 h
  exact ⟨ops[j], List.getElem?_eq_getElem h1, by simpa using h2⟩
theorem wr_of (hp : PlanOK ops befs) {t j : Nat} {o : Oper} (h : ops[j]? = some o) (hd : o.dst = some t) : wr ops t = some j := by
  cases hw : wr ops t with
  | none =>
    have := List.findIdx?_eq_none_iff.1 hw o (List.mem_of_getElem? h)
    rw [hd] at this; simp at this
  | some i =>
    obtain ⟨o', h1, h2⟩ := wr_some hw
    rw [hp.once i j o' o t h1 h h2 hd]
theorem cur_congr {t : Nat} (h : ∀ j, wr ops t = some j → S j = S' j ∧ (S' j = true → V j = V' j)) : cur ops tm0 V S t = cur ops tm0 V' S' t := by
  unfold cur
  cases hw : wr ops t with
  | none => rfl
  | some j =>
    obtain ⟨h1, h2⟩ := h j hw
    simp only [h1]
    cases e : S' j with
    | false => rfl
    | true => simp [h2 e]
theorem cur_add (hp : PlanOK ops befs) {i : Nat} {o : Oper} (ho : ops[i]? = some o) (hS : ∀ j, S' j = (S j || decide (i = j))) (v : AV) (t : Nat) (hi : S i = false) :
    cur ops tm0 (upd V i v) S' t = if o.dst = some t then v else cur ops tm0 V S t := by
  by_cases c : o.dst = some t
  · rw [if_pos c]
    unfold cur
    rw [wr_of hp ho c]
    simp [hS, upd_same]
  · rw [if_neg c]
    refine cur_congr fun j hj => ?_
    obtain ⟨o', h1, h2⟩ := wr_some hj
    have hne : j ≠ i := by rintro rfl; rw [ho] at h1; cases h1; exact c h2
    exact ⟨by rw [hS, decide_eq_false (fun h : i = j => hne h.symm), Bool.or_false], fun _ => upd_other _ _ hne⟩
theorem cur_bef (hp : PlanOK ops befs) {i : Nat} {o : Oper} (ho : ops[i]? = some o) {t : Nat} (ht : t ∈ namesOf ops o) (h1 : ∀ j, bef befs i j = true → S j = true) (h2 : S i = false) (h3 : ∀ j m, S j = true → bef befs j m = true → S m = true) :
    cur ops tm0 V S t = cur ops tm0 V (bef befs i) t := by
  refine cur_congr fun j hj => ⟨?_, fun _ => rfl⟩
  obtain ⟨o', g1, g2⟩ := wr_some hj
  obtain ⟨g3, g4⟩ := hp.slots i j o o' t ho g1 g2 ht
  rcases Nat.lt_trichotomy j i with c | c | c
  · rw [g3 c, h1 j (g3 c)]
  · subst c
    rw [h2]
    cases e : bef befs j j with
    | false => rfl
    | true => exact absurd (bef_lt hp j o ho j e) (Nat.lt_irrefl _)
  · have e1 : bef befs i j = false := by
      cases e : bef befs i j with
      | false => rfl
      | true => exact absurd (bef_lt hp i o ho j e) (by omega)
    have e2 : S j = false := by
      cases e : S j with
      | false => rfl
      | true => rw [h3 j i e (g4 c)] at h2; cases h2
    rw [e1, e2]
theorem mem_tmpsOf {t : Nat} : ∀ {l : List Operand}, .tmp t ∈ l → t ∈ tmpsOf l
  | x :: l, h => by
    rcases List.mem_cons.1 h with rfl | h
    · exact List.mem_cons_self
    · have := mem_tmpsOf h
      cases x <;> first | exact this | exact List.mem_cons_of_mem _ this
theorem names_tmp {all : List Oper} {o : Oper} {t : Nat} (h : .tmp t ∈ o.op.operands.toList) : t ∈ namesOf all o :=
  List.mem_append_right _ (List.mem_append_right _ (mem_tmpsOf h))
theorem names_grd {all : List Oper} {o : Oper} {d : Nat} (h : gName all o = some d) : d ∈ namesOf all o := by
  refine List.mem_append_right _ (List.mem_append_left _ ?_)
  unfold gName at h
  cases hg : o.guard with
  | none => rw [hg] at h; cases h
  | some g =>
    rw [hg] at h
    simp only at h ⊢
    cases hj : getL g.1 all with
    | none => rw [hj] at h; cases h
    | some oj =>
      rw [hj] at h
      simp only at h ⊢
      rw [h]; simp
end

/-! ### What was laid aside -/
structure Pend (X : Tabs) (K : Nat → Prop) (w0 : World) (ops : List Oper) (befs : List Nat) (tm0 : Tm) (V : Nat → AV) (i : Nat) (o : Oper) (lo hi : Nat) (E : Env) (st : St) (lds : List Ld) : Prop where
  ex : ∃ tmi t Eg, (∀ n ∈ namesOf ops o, slot tmi (pth n) = cur ops tm0 V (bef befs i) n) ∧ Env.Le Eg E ∧
    (∀ (E' : Env) (val : Nat → Value), Eg.Le E' → (∀ d, gName ops o = some d → (slot tmi (pth d)).den E' = some (val d)) → wantB ops o.guard val = t) ∧
    ((t = false ∧ V i = .tuple []) ∨ (t = true ∧ ∃ b E1 E2 st2, cOp X.cx.und X.cx.size X.cx.zero o.type o.op = some b ∧ E2.Le E ∧ E1.m.length = lo ∧ E2.m.length = hi ∧ Held lo hi st2 E st ∧ Late X K w0 o tmi b (V i) E1 E2 st2 ∧ LdNow X tmi b (V i) st ∧
      ∀ n a x, b = .load n a → asPtr (ev tmi a) = some x → (⟨i, n, x, V i⟩ : Ld) ∈ lds))
theorem Pend.step {X : Tabs} {K : Nat → Prop} {w0 : World} {ops : List Oper} {befs : List Nat} {tm0 : Tm} {V V' : Nat → AV} {i : Nat} {o : Oper} {lo hi : Nat} {E E' : Env} {st st' : St} {lds lds' : List Ld} (h : Pend X K w0 ops befs tm0 V i o lo hi E st lds)
    (hE : E.Le E') (hH : ∀ k, lo ≤ k → k < hi → E.m[k]? = some none → E'.m[k]? = some none ∧ st'.heap.get k = st.heap.get k ∧ st'.x.objs.get k = st.x.objs.get k)
    (hL : ∀ n x, (⟨i, n, x, V i⟩ : Ld) ∈ lds → loadVar X.cx st n x = some (V i) → loadVar X.cx st' n x = some (V i)) (hlds : ∀ l ∈ lds, l ∈ lds') (hV : ∀ j, j = i ∨ bef befs i j = true → V' j = V j) :
    Pend X K w0 ops befs tm0 V' i o lo hi E' st' lds' := by
  obtain ⟨tmi, t, Eg, h1, h2, h3, h4⟩ := h
  refine ⟨tmi, t, Eg, fun n hn => ?_, h2.trans hE, h3, ?_⟩
  · rw [h1 n hn]
    exact cur_congr fun j hj => ⟨rfl, fun hb => (hV j (.inr hb)).symm⟩
  · rw [hV i (.inl rfl)]
    refine h4.imp id fun ⟨g0, b, E1, E2, st2, g1, g2, g3, g4, g5, g6, g7, g8⟩ => ⟨g0, b, E1, E2, st2, g1, g2.trans hE, g3, g4, fun k hk hk' => ?_, g6, fun n a e x hx => ?_, fun n a x e hx => hlds _ (g8 n a x e hx)⟩
    · obtain ⟨a, b, c⟩ := g5 k hk hk'
      obtain ⟨d, e, f⟩ := hH k hk hk' a
      exact ⟨d, e.trans b, f.trans c⟩
    · exact hL n x (g8 n a x e hx) (g7 n a e x hx)

structure Sit (X : Tabs) (K : Nat → Prop) (w0 : World) (ops : List Oper) (befs : List Nat) (tm0 : Tm) (N : Nat) (ds : List Nat) (E0 : Env) (st0 : St) (V : Nat → AV) (lo hi : Nat → Nat) (dn : Nat) (L : Nat → Bool) (tm : Tm) (st : St) (E : Env) (w : World) (a : Act) (lds : List Ld) : Prop where
  sr : StRel X K w0 E st w
  size : a.tmps.size = N
  defers : DfRel E ds a.defers
  ok0 : ∀ t, ∃ x, (slot tm0 (pth t)).den E = some x
  tmE : ∀ t, slot tm (pth t) = cur ops tm0 V (Nat.testBit dn) t
  real : ∀ t, ∃ x, (cur ops tm0 V L t).den E = some x ∧ a.tmps.getD t undef = x
  sub : ∀ j, L j = true → Nat.testBit dn j = true
  dlt : ∀ j, Nat.testBit dn j = true → j < ops.length
  clL : Closed ops L
  clD : ∀ i j, Nat.testBit dn i = true → bef befs i j = true → Nat.testBit dn j = true
  okV : ∀ j, Nat.testBit dn j = true → okv E (V j)
  pend : ∀ j o, ops[j]? = some o → Nat.testBit dn j = true → L j = false → Pend X K w0 ops befs tm0 V j o (lo j) (hi j) E st lds
  disj : ∀ i j, i ≠ j → Nat.testBit dn i = true → L i = false → Nat.testBit dn j = true → L j = false → hi i ≤ lo j ∨ hi j ≤ lo i
  bnd : ∀ i, Nat.testBit dn i = true → L i = false → E0.m.length ≤ lo i ∧ lo i ≤ hi i ∧ hi i ≤ E.m.length
  e0 : E0.Le E
  hp0 : HP E0 E st0 st
section
variable {X : Tabs} {K : Nat → Prop} {w0 : World} {ops : List Oper} {befs : List Nat} {tm0 : Tm} {N : Nat} {ds : List Nat} {V : Nat → AV} {lo hi : Nat → Nat} {dn : Nat} {L : Nat → Bool} {tm : Tm} {st st0 : St} {E E0 : Env} {w : World} {a : Act} {lds : List Ld}
theorem Sit.oks (h : Sit X K w0 ops befs tm0 N ds E0 st0 V lo hi dn L tm st E w a lds) : Oks E tm := by
  intro t
  rw [h.tmE]
  unfold cur
  have h0 : okv E (slot tm0 (pth t)) := let ⟨x, hx⟩ := h.ok0 t; okv_of hx
  cases wr ops t with
  | none => exact h0
  | some j =>
    simp only
    cases e : Nat.testBit dn j with
    | false => simpa using h0
    | true => simpa using h.okV j e
/-- What stands before a listed one is listed. -/
theorem Sit.befL (hp : PlanOK ops befs) (h : Sit X K w0 ops befs tm0 N ds E0 st0 V lo hi dn L tm st E w a lds) : ∀ j m, L j = true → bef befs j m = true → L m = true := by
  intro j m hj hb
  have hlt := h.dlt j (h.sub j hj)
  exact closed_bef hp h.clL (List.getElem?_eq_getElem hlt) hj hb
/-- The names of what may come now, as they stand. -/
theorem Sit.names (hp : PlanOK ops befs) (h : Sit X K w0 ops befs tm0 N ds E0 st0 V lo hi dn L tm st E w a lds) {i : Nat} {o : Oper} (ho : ops[i]? = some o) (hL : L i = false) (hb : ∀ j, bef befs i j = true → L j = true) {t : Nat} (ht : t ∈ namesOf ops o) :
    (cur ops tm0 V (bef befs i) t).den E = some (a.tmps.getD t undef) := by
  rw [← cur_bef hp ho ht hb hL (h.befL hp)]
  obtain ⟨x, h1, h2⟩ := h.real t
  rw [h1, h2]
theorem Sit.tmNames (hp : PlanOK ops befs) (h : Sit X K w0 ops befs tm0 N ds E0 st0 V lo hi dn L tm st E w a lds) {i : Nat} {o : Oper} (ho : ops[i]? = some o) (hd : Nat.testBit dn i = false) (hb : ∀ j, bef befs i j = true → Nat.testBit dn j = true) {t : Nat} (ht : t ∈ namesOf ops o) :
    slot tm (pth t) = cur ops tm0 V (bef befs i) t := by
  rw [h.tmE]
  exact cur_bef hp ho ht hb hd h.clD
end
end Go.Sy
