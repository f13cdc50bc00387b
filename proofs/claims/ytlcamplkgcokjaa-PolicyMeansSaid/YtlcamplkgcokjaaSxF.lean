import Derived.Test.YtlcamplkgcokjaaSxE
/-! Statements whose order is drawn: each order. -/
namespace Go.Sx
open Go.RowKit (Below)

theorem sameB_eq {a b : Bid} (h : sameB a b = true) : a = b := by
  cases a <;> cases b <;> simp only [sameB, beq_iff, decide_eq_true_eq] at h <;> first | cases h; done | (subst h; rfl)
theorem ieq_eq' {a b : Int} (h : ieq a b = true) : a = b := by
  cases a <;> cases b <;> simp only [ieq, beq_iff, decide_eq_true_eq] at h <;> first | cases h; done | (subst h; rfl)
theorem bbeq_eq' {a b : Bool} (h : bbeq a b = true) : a = b := by cases a <;> cases b <;> first | rfl | cases h
theorem kbeq_eq' {a b : IntKind} (h : kbeq a b = true) : a = b := by cases a <;> cases b <;> first | rfl | cases h
theorem addr_same {a b : AAddr} (h1 : sameB a.b b.b = true) (h2 : a.off = b.off) : a = b := by
  obtain ⟨b1, o1⟩ := a
  obtain ⟨b2, o2⟩ := b
  have := sameB_eq h1
  simp only at this h2
  rw [this, h2]
theorem same_both : (∀ a b, AV.same a b = true → a = b) ∧ (∀ a b, sameL a b = true → a = b) := by
  apply AV.same.mutual_induct (motive_1 := fun a b => AV.same a b = true → a = b) (motive_2 := fun a b => sameL a b = true → a = b)
  all_goals intros
  all_goals rename_i h
  all_goals first | rfl | skip
  all_goals simp only [AV.same, sameL, Bool.and_eq_true, beq_iff, decide_eq_true_eq] at h
  all_goals first | (cases h; done) | skip
  case case1 => rw [bbeq_eq' h]
  case case2 => rw [kbeq_eq' h.1, ieq_eq' h.2]
  case case4 => rw [addr_same h.1 h.2]
  case case5 => rw [h.1, h.2]
  case case6 => rw [addr_same h.1.1 h.1.2, h.2.1, h.2.2]
  case case7 => rw [addr_same h.1.1 h.1.2, h.2.1, h.2.2.1, h.2.2.2]
  case case11 ih => rw [ih h]
  case case12 => rw [h]
  case case15 ih2 ih1 => rw [ih2 h.1, ih1 h.2]
theorem same_eq (a b : AV) (h : AV.same a b = true) : a = b := same_both.1 a b h
section
variable {P : Program} {cx : Cx} {σ : Nat → Option Value} {B : Nat} {w0 : World} {E : Env} {st : St} {w : World} {tm : Tm} {a : Act} {N : Nat} {rec : Rec} {r : Res}

theorem ldOK_spec {l : Ld} : ∀ {sts : List St} {i : Nat}, ldOK cx l sts i = true → ∀ k st, sts[k]? = some st → l.lo ≤ i + k → i + k ≤ l.hi → loadVar cx st l.t l.a = some l.v
  | [], _, _, k, st, h, _, _ => by simp at h
  | x :: sts, i, h, k, st, hk, h1, h2 => by
    simp only [ldOK, Bool.and_eq_true] at h
    cases k with
    | succ k =>
      exact ldOK_spec h.2 k st (by simpa using hk) (by omega) (by omega)
    | zero =>
      simp only [List.getElem?_cons_zero, Option.some.injEq] at hk
      subst hk
      have e : (Nat.ble l.lo i && Nat.ble i l.hi) = true := by simp only [Bool.and_eq_true, Nat.ble_eq]; omega
      rw [e] at h
      have h' := h.1
      simp only [bif_true, ldAt] at h'
      cases hl : loadVar cx x l.t l.a with
      | none => rw [hl] at h'; cases h'
      | some v => rw [hl] at h'; rw [same_eq _ _ h']
theorem ldsOK_spec {sts : List St} : ∀ {lds : List Ld}, ldsOK cx sts lds = true → ∀ l ∈ lds, l.lo = l.hi ∨ ldOK cx l sts 0 = true
  | [], _, l, hl => by simp at hl
  | x :: lds, h, l, hl => by
    simp only [ldsOK, Bool.and_eq_true] at h
    rcases List.mem_cons.1 hl with rfl | hl
    · by_cases e : l.lo = l.hi
      · exact .inl e
      · rw [beq_iff, decide_eq_false e] at h
        exact .inr (by simpa using h.1)
    · exact ldsOK_spec h.2 l hl

theorem mem_tmpsOf {t : Nat} : ∀ {l : List Operand}, .tmp t ∈ l → t ∈ tmpsOf l
  | x :: l, h => by
    rcases List.mem_cons.1 h with e | h'
    · subst e; simp [tmpsOf]
    · have ih := mem_tmpsOf h'
      cases x <;> simp [tmpsOf, ih]
theorem ev_of_slots {tm tm' : Tm} {l : List Operand} (h : ∀ t ∈ tmpsOf l, slot tm t = slot tm' t) : ∀ x ∈ l, ev tm x = ev tm' x := by
  intro x hx
  cases x with
  | tmp t => show some (slot tm t) = some (slot tm' t); rw [h t (mem_tmpsOf hx)]
  | _ => rfl
theorem wanted_of_slots {all : List Oper} {o : Oper} {tm tm' : Tm} (h : ∀ t ∈ namesOf all o, slot tm t = slot tm' t) : wanted all tm o.guard = wanted all tm' o.guard := by
  cases hg : o.guard with
  | none => rfl
  | some g =>
    show guardOf all tm g = guardOf all tm' g
    unfold guardOf
    cases hj : getL g.1 all with
    | none => rfl
    | some oj =>
      cases hd : oj.dst with
      | none => simp [hd]
      | some d => simp only [hd, h d (by simp [namesOf, hg, hj, hd])]

/-- What the orders share. -/
structure DShared (P : Program) (cx : Cx) (σ : Nat → Option Value) (B : Nat) (w0 : World) (rec : Rec) (ops : Array Oper) (N : Nat) (p : Plan) (T : Nat → Tm) (S : Nat → St) (V : Nat → AV) (H : List St) (lds : List Ld) : Prop where
  dst : ∀ o ∈ ops.toList, dstLt N o = true
  plan : PlanOK ops.toList p
  step : ∀ j o, ops.toList[j]? = some o → StepT cx rec ops.toList o T S V j
  hist : ∀ j, j ≤ ops.toList.length → H[cnt ops.toList j]? = some (S j)
  ldsok : ldsOK cx H lds = true
  load : ∀ j o t x, ops.toList[j]? = some o → wanted ops.toList (T j) o.guard = true → o.op = .load t x → ∃ y z, ev (T j) x = some y ∧ asPtr y = some z ∧ loadVar cx (S j) t z = some (V j) ∧ ⟨t, z, V j, loOf p j, hiOf p j⟩ ∈ lds

/-- Where an order stands. -/
structure Stands (P : Program) (σ : Nat → Option Value) (B : Nat) (w0 : World) (ops : Array Oper) (N : Nat) (p : Plan) (T : Nat → Tm) (V : Nat → AV) (H : List St) (L : Nat → Bool) (s : Nat) (st : St) (E : Env) (w : World) (a : Act) : Prop where
  closed : Closed ops.toList L
  le : s ≤ cnt ops.toList ops.toList.length
  effs : ∀ i o, ops.toList[i]? = some o → isEff o.op = true → (L i = true ↔ cnt ops.toList i < s)
  at_ : H[s]? = some st
  rel : StRel σ B w0 E st w
  tmps : TmRel σ E (curT (fun i => (ops.toList[i]?).bind (·.dst)) V (T 0) L ops.toList.length) a N

variable {ops : Array Oper} {p : Plan} {T : Nat → Tm} {S : Nat → St} {V : Nat → AV} {H : List St} {lds : List Ld} {L : Nat → Bool} {s : Nat}

theorem lo_le (hp : PlanOK ops.toList p) (hL : ∀ i o, ops.toList[i]? = some o → isEff o.op = true → L i = true → cnt ops.toList i < s) {i : Nat} (hb : ∀ j, bef p.befs i j = true → L j = true) : loOf p i ≤ s := by
  unfold loOf
  rw [getL_eq]
  cases hi : p.befs[i]? with
  | none => exact Nat.zero_le _
  | some b =>
    refine countL_le fun k e he hf => ?_
    rw [hp.effs] at he
    obtain ⟨j, o, rfl, h2, h3, h4⟩ := (effsOf_spec ops.toList 0).2.2 k _ he
    simp only [Nat.zero_add] at *
    rw [← h4]
    exact hL j o h2 h3 (hb j (by unfold bef; rw [hi]; exact hf))
theorem le_hi (hp : PlanOK ops.toList p) (hle : s ≤ cnt ops.toList ops.toList.length) (hL : ∀ i o, ops.toList[i]? = some o → isEff o.op = true → cnt ops.toList i < s → L i = true) (hc : Closed ops.toList L) {i : Nat} (hi : L i = false) : s ≤ hiOf p i := by
  unfold hiOf
  refine le_countL (by rw [hp.effs, (effsOf_spec _ 0).1]; exact hle) fun k e he hk => ?_
  rw [hp.effs] at he
  obtain ⟨j, o, rfl, h2, h3, h4⟩ := (effsOf_spec ops.toList 0).2.2 k _ he
  simp only [Nat.zero_add] at *
  have hLj := hL j o h2 h3 (by omega)
  obtain ⟨b, hb⟩ := hp.some_ j o h2
  rw [getL_eq, hb]
  show (!(Nat.testBit b i)) = true
  cases hbit : Nat.testBit b i with
  | false => rfl
  | true =>
    have := closed_bef hp hc (i := j) (j := i) h2 hLj (by unfold bef; rw [hb]; exact hbit)
    rw [hi] at this; cases this

theorem closed_lt (hp : PlanOK ops.toList p) (i : Nat) : Closed ops.toList (fun j => decide (j < i)) := by
  intro j o ho hj e he hb
  have := hp.edge j o ho e he hb
  simp only [decide_eq_true_eq] at hj ⊢
  omega

/-- A listed one's value, where it stands. -/
theorem stands_step (hsh : DShared P cx σ B w0 rec ops N p T S V H lds) {E : Env} {w : World} {a : Act} {st : St} (h : Stands P σ B w0 ops N p T V H L s st E w a) {i : Nat} {o : Oper} (ho : ops.toList[i]? = some o) (hi : L i = false)
    (hr : ∀ e ∈ o.after.toList, bindsE e = true → L e.on = true) :
    (∀ d ∈ namesOf ops.toList o, slot (curT (fun i => (ops.toList[i]?).bind (·.dst)) V (T 0) L ops.toList.length) d = slot (T i) d) ∧
    (isEff o.op = true → s = cnt ops.toList i ∧ st = S i) ∧
    (wanted ops.toList (T i) o.guard = true → ∃ st', H[s + (if isEff o.op = true then 1 else 0)]? = some st' ∧ ∀ k, opK o.op cx rec (T i) st k = k (V i) st') ∧
    (wanted ops.toList (T i) o.guard = false → V i = .tuple [] ∧ H[s + (if isEff o.op = true then 1 else 0)]? = some st) := by
  have hp := hsh.plan
  have hn : i < ops.toList.length := (List.getElem?_eq_some_iff.1 ho).1
  have hbef : ∀ j, bef p.befs i j = true → L j = true := closed_edges hp h.closed i o ho hr
  have hstep := hsh.step i o ho
  have heff : isEff o.op = true → s = cnt ops.toList i ∧ st = S i := by
    intro he
    have h1 : ¬ cnt ops.toList i < s := fun hlt => by rw [(h.effs i o ho he).2 hlt] at hi; cases hi
    have h2 : cnt ops.toList i ≤ s := by
      cases hc : cnt ops.toList i with
      | zero => exact Nat.zero_le _
      | succ c =>
        have g1 := (effsOf_spec ops.toList 0).2.1 i o ho he
        rw [hc] at g1
        have hlt : c < (effsOf ops.toList 0).length := by have := (List.getElem?_eq_some_iff.1 g1).1; omega
        have g0 := List.getElem?_eq_getElem hlt
        have hch := hp.chain c _ _ (by rw [hp.effs]; exact g0) (by rw [hp.effs]; exact g1)
        obtain ⟨j, oj, k1, k2, k3, k4⟩ := (effsOf_spec ops.toList 0).2.2 c _ g0
        rw [k1] at hch
        simp only [Nat.zero_add] at hch
        have := (h.effs j oj k2 k3).1 (hbef j hch)
        omega
    have e : s = cnt ops.toList i := by omega
    refine ⟨e, ?_⟩
    have h3 := hsh.hist i (by omega)
    rw [← e, h.at_] at h3
    exact Option.some.inj h3
  have hnext : isEff o.op = true → H[s + 1]? = some (S (i + 1)) := by
    intro he
    have h3 := hsh.hist (i + 1) hn
    rw [cnt_succ ho, if_pos he, ← (heff he).1] at h3
    exact h3
  refine ⟨fun d hd => ?_, heff, fun hw => ?_, fun hw => ?_⟩
  · -- the slots of its names
    have e1 : slot (curT (fun i => (ops.toList[i]?).bind (·.dst)) V (T 0) L ops.toList.length) d = slot (curT (fun i => (ops.toList[i]?).bind (·.dst)) V (T 0) L i) d := by
      refine cur_le (by omega) fun j h1 h2 hd' => ?_
      rcases Nat.eq_or_lt_of_le h1 with rfl | hlt
      · exact hi
      · have hj : ops.toList[j]? = some ops.toList[j] := List.getElem?_eq_getElem h2
        rw [hj] at hd'
        have := (hp.slots i j o _ d ho hj hd' hd).2 hlt
        cases hL : L j with
        | false => rfl
        | true =>
          have := closed_bef hp h.closed hj hL this
          rw [hi] at this; cases this
    have e2 : slot (curT (fun i => (ops.toList[i]?).bind (·.dst)) V (T 0) L i) d = slot (curT (fun i => (ops.toList[i]?).bind (·.dst)) V (T 0) (fun _ => true) i) d := by
      refine cur_congr fun j h1 hd' => ?_
      have hj : ops.toList[j]? = some ops.toList[j] := List.getElem?_eq_getElem (by omega)
      rw [hj] at hd'
      exact hbef j ((hp.slots i j o _ d ho hj hd' hd).1 h1)
    rw [e1, e2, cur_all (T := T) (n := ops.toList.length) rfl (fun j hj => ?_) (by omega) (fun _ _ => rfl)]
    have hj' : ops.toList[j]? = some ops.toList[j] := List.getElem?_eq_getElem hj
    rw [(hsh.step j _ hj').1, hj']
    rfl
  · rcases hstep.2 with ⟨g, _⟩ | ⟨_, he, g⟩ | ⟨_, he, g, hS⟩
    · rw [hw] at g; cases g
    · refine ⟨S (i + 1), by rw [if_pos he]; exact hnext he, fun k => ?_⟩
      rw [(heff he).2]; exact g k
    · refine ⟨st, by rw [if_neg (by rw [he]; exact Bool.false_ne_true)]; exact h.at_, ?_⟩
      cases hl : isLoad o.op with
      | false => exact fun k => opK_mov cx he hl g st k
      | true =>
        have hop : ∃ t x, o.op = .load t x := by cases hop : o.op <;> rw [hop] at hl <;> first | exact ⟨_, _, rfl⟩ | cases hl
        obtain ⟨t, x, hop⟩ := hop
        obtain ⟨y, z, h1, h2, h3, h4⟩ := hsh.load i o t x ho hw hop
        have hlo := lo_le (L := L) (s := s) hp (fun j oj k1 k2 k3 => (h.effs j oj k1 k2).1 k3) hbef
        have hhi := le_hi (L := L) (s := s) hp h.le (fun j oj k1 k2 k3 => (h.effs j oj k1 k2).2 k3) h.closed hi
        have hlo' := lo_le (L := fun j => decide (j < i)) (s := cnt ops.toList i) (i := i) hp (fun j oj k1 k2 k3 => cnt_lt k1 k2 (by simpa using k3) (by omega)) (fun j hj => decide_eq_true (bef_lt hp i o ho j hj))
        have hhi' := le_hi (L := fun j => decide (j < i)) (s := cnt ops.toList i) (i := i) hp (cnt_mono _ (by omega) (Nat.le_refl _)) (fun j oj k1 k2 k3 => by
          simp only [decide_eq_true_eq]
          rcases Nat.lt_or_ge j i with c | c
          · exact c
          · have := cnt_mono ops.toList c (by have := (List.getElem?_eq_some_iff.1 k1).1; omega); omega) (closed_lt hp i) (by simp)
        have hval : loadVar cx st t z = some (V i) := by
          rcases ldsOK_spec hsh.ldsok _ h4 with e | e
          · have e' : loOf p i = hiOf p i := e
            have hs : s = cnt ops.toList i := by omega
            have h5 := hsh.hist i (by omega)
            rw [← hs, h.at_] at h5
            rw [Option.some.inj h5]; exact h3
          · exact ldOK_spec e s st h.at_ (by simpa using hlo) (by simpa using hhi)
        intro k
        rw [hop]
        show xop (.load t x) cx (T i) st k = _
        simp only [xop, h1, h2, obind_some, hval]
        rfl
  · rcases hstep.2 with ⟨_, g1, g2⟩ | ⟨g, _⟩ | ⟨g, _⟩
    · refine ⟨g1, ?_⟩
      by_cases he : isEff o.op = true
      · rw [if_pos he, hnext he, g2, (heff he).2]
      · rw [if_neg he]; exact h.at_
    · rw [hw] at g; cases g
    · rw [hw] at g; cases g
end
end Go.Sx
