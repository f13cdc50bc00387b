import Derived.Test.YtjpohnhgajjndaaSyGA
/-! Statements whose order is drawn: steps. -/
namespace Go.Sy
theorem Env.Le.len {E E' : Env} (h : E.Le E') : E.m.length ≤ E'.m.length := by
  rcases Nat.eq_zero_or_pos E.m.length with e | e
  · omega
  · have hlt : E.m.length - 1 < E.m.length := by omega
    have hg : E.m[E.m.length - 1]? = some E.m[E.m.length - 1] := List.getElem?_eq_getElem hlt
    cases hx : E.m[E.m.length - 1] with
    | none =>
      rw [hx] at hg
      obtain ⟨q, hq, _⟩ := h.h _ hg
      have := (List.getElem?_eq_some_iff.1 hq).1; omega
    | some p =>
      rw [hx] at hg
      have := (List.getElem?_eq_some_iff.1 (h.m _ _ hg)).1; omega
theorem readB_keep {X : Tabs} {st st' : St} (hk : KeepH st st') {i : Nat} {b : Bid} {v : AV} (h : readB X.cx st i b = some v) : readB X.cx st' i b = some v := by
  cases b with
  | g n => exact h
  | r j =>
    obtain ⟨bl, hb, h⟩ := obind_inv h
    show obind (st'.heap.get j) _ = _
    rw [hk j bl hb]; exact h
theorem cellsFrom_keep {X : Tabs} {st st' : St} (hk : KeepH st st') {n off : Nat} {b : Bid} {l : List AV} (h : cellsFrom X.cx st n off b = some l) : cellsFrom X.cx st' n off b = some l := by
  cases b with
  | g n => exact h
  | r j =>
    obtain ⟨bl, hb, h⟩ := obind_inv h
    show obind (st'.heap.get j) _ = _
    rw [hk j bl hb]; exact h
theorem loadVar_keep {X : Tabs} {st st' : St} (hk : KeepH st st') {n : Option Nat} {x : AAddr} {v : AV} (h : loadVar X.cx st n x = some v) : loadVar X.cx st' n x = some v := by
  cases n with
  | none => exact readB_keep (X := X) hk (i := x.off) (b := x.b) h
  | some n =>
    obtain ⟨l, hl, h⟩ := obind_inv h
    show obind (cellsFrom X.cx st' n x.off x.b) _ = _
    rw [cellsFrom_keep hk hl]; exact h
theorem ldsOK_spec {X : Tabs} {st : St} {m : Nat} : ∀ {lds : List Ld}, ldsOK X.cx st m lds = true → ∀ l ∈ lds, Nat.testBit m l.i = false → loadVar X.cx st l.n l.a = some l.v
  | [], _, l, hl, _ => by cases hl
  | x :: lds, h, l, hl, hm => by
    change bif_ (Nat.testBit m x.i) (ldsOK X.cx st m lds) (ldAt X.cx x st && ldsOK X.cx st m lds) = true at h
    cases hx : Nat.testBit m x.i with
    | true =>
      rw [hx] at h
      rcases List.mem_cons.1 hl with rfl | hl
      · rw [hx] at hm; cases hm
      · exact ldsOK_spec h l hl hm
    | false =>
      rw [hx] at h
      simp only [bif_false, Bool.and_eq_true] at h
      rcases List.mem_cons.1 hl with rfl | hl
      · have h1 := h.1
        unfold ldAt at h1
        cases hv : loadVar X.cx st l.n l.a with
        | none => rw [hv] at h1; cases h1
        | some v => rw [hv] at h1; rw [same_eq _ _ h1]
      · exact ldsOK_spec h.2 l hl hm
theorem noteL_mem {i : Nat} {tm : Tm} {v : AV} {lds : List Ld} {b : BOp} : ∀ l ∈ lds, l ∈ noteL i tm v lds b := by
  intro l hl
  unfold noteL
  split
  · split
    · exact List.mem_cons_of_mem _ hl
    · exact hl
  · exact hl
theorem noteL_new {i : Nat} {tm : Tm} {v : AV} {lds : List Ld} {n : Option Nat} {a : BO} {x : AAddr} (h : asPtr (ev tm a) = some x) : (⟨i, n, x, v⟩ : Ld) ∈ noteL i tm v lds (.load n a) := by
  simp only [noteL, h]; exact List.mem_cons_self

section
variable {X : Tabs} {K : Nat → Prop} {w0 : World} {ops : List Oper} {befs : List Nat} {tm0 : Tm} {N : Nat} {ds : List Nat} {V : Nat → AV} {lo hi : Nat → Nat} {dn : Nat} {L : Nat → Bool} {tm : Tm} {st st0 : St} {E E0 : Env} {w : World} {a : Act} {lds : List Ld}
variable {Θ : Pred} {R : List Back} {rec : Rec}

theorem slot_putD (tm : Tm) (d : Option Tmp) (v : AV) (t : Nat) : slot (putD tm d v) (pth t) = if d = some t then v else slot tm (pth t) := by
  cases d with
  | none => simp [putD]
  | some d =>
    show slot (Tr.put (pth d) tm (some v)) (pth t) = _
    by_cases e : d = t
    · subst e; rw [slot_put_same, if_pos rfl]
    · rw [slot_put_other _ _ (fun h => e (pth_inj h)), if_neg (fun h => e (Option.some.inj h))]

/-- Something more is laid aside. -/
theorem Sit.lay (hp : PlanOK ops befs) (h : Sit X K w0 ops befs tm0 N ds E0 st0 V lo hi dn L tm st E w a lds) {i : Nat} {o : Oper} (ho : ops[i]? = some o) (hd : Nat.testBit dn i = false) (hb : ∀ j, bef befs i j = true → Nat.testBit dn j = true)
    {v : AV} {st' : St} {E' : Env} {lds' : List Ld} (hE : E.Le E') (hS : StRel X K w0 E' st' w) (hH : HP E E' st st') (hv : okv E' v) (hkeep : KeepH st st') (hlds : ∀ l ∈ lds, l ∈ lds')
    (hpend : Pend X K w0 ops befs tm0 (upd V i v) i o E.m.length E'.m.length E' st' lds') :
    Sit X K w0 ops befs tm0 N ds E0 st0 (upd V i v) (upd lo i E.m.length) (upd hi i E'.m.length) (Nat.lor dn (Nat.pow 2 i)) L (putD tm o.dst v) st' E' w a lds' := by
  have hL : L i = false := by
    cases e : L i with
    | false => rfl
    | true => rw [h.sub i e] at hd; cases hd
  have hbit := lor_bit dn i
  have hlt := (List.getElem?_eq_some_iff.1 ho).1
  have hlen := hE.len
  have old : ∀ j, Nat.testBit (Nat.lor dn (Nat.pow 2 i)) j = true → j = i ∨ (j ≠ i ∧ Nat.testBit dn j = true) := by
    intro j hj
    rw [hbit, Bool.or_eq_true, decide_eq_true_eq] at hj
    by_cases e : j = i
    · exact .inl e
    · exact .inr ⟨e, hj.resolve_right fun h => e h.symm⟩
  refine ⟨hS, h.size, h.defers.mono hE, fun t => let ⟨x, hx⟩ := h.ok0 t; ⟨x, den_mono hE _ hx⟩, fun t => ?_, fun t => ?_, fun j hj => ?_, fun j hj => ?_, h.clL, fun j m hj hm => ?_, fun j hj => ?_, fun j o' hj hdj hLj => ?_, fun j1 j2 hne h1 l1 h2 l2 => ?_, fun j hj hLj => ?_, h.e0.trans hE, h.hp0.trans hH⟩
  · rw [slot_putD, cur_add hp ho hbit v t hd, h.tmE]
  · obtain ⟨x, h1, h2⟩ := h.real t
    refine ⟨x, ?_, h2⟩
    have : cur ops tm0 (upd V i v) L t = cur ops tm0 V L t := cur_congr fun j _ => ⟨rfl, fun hj => upd_other _ _ (by rintro rfl; rw [hL] at hj; cases hj)⟩
    rw [this]; exact den_mono hE _ h1
  · rw [hbit, h.sub j hj]; rfl
  · rcases old j hj with rfl | ⟨_, hj⟩
    · exact hlt
    · exact h.dlt j hj
  · rw [hbit]
    rcases old j hj with rfl | ⟨_, hj⟩
    · rw [hb m hm]; rfl
    · rw [h.clD j m hj hm]; rfl
  · rcases old j hj with rfl | ⟨hne, hj⟩
    · rw [upd_same]; exact hv
    · rw [upd_other _ _ hne]; exact (h.okV j hj).mono hE
  · rcases old j hdj with rfl | ⟨hne, hdk⟩
    · rw [upd_same, upd_same]
      rw [ho] at hj; cases hj
      exact hpend
    · rw [upd_other _ _ hne, upd_other _ _ hne]
      refine (h.pend j o' hj hdk hLj).step hE (fun k _ _ hk => let ⟨a, b, c, _⟩ := hH k hk; ⟨a, b, c⟩) (fun n x _ hl => loadVar_keep hkeep hl) hlds fun m hm => upd_other _ _ ?_
      rintro rfl
      rcases hm with e | e
      · exact hne e.symm
      · rw [h.clD j m hdk e] at hd; cases hd
  · rcases old j1 h1 with rfl | ⟨n1, g1⟩ <;> rcases old j2 h2 with rfl | ⟨n2, g2⟩
    · exact absurd rfl hne
    · rw [upd_same, upd_same, upd_other _ _ n2, upd_other _ _ n2]
      exact .inr (h.bnd j2 g2 l2).2.2
    · rw [upd_same, upd_same, upd_other _ _ n1, upd_other _ _ n1]
      exact .inl (h.bnd j1 g1 l1).2.2
    · rw [upd_other _ _ n1, upd_other _ _ n1, upd_other _ _ n2, upd_other _ _ n2]
      exact h.disj j1 j2 hne g1 l1 g2 l2
  · rcases old j hj with rfl | ⟨hne, hj⟩
    · rw [upd_same, upd_same]; exact ⟨h.e0.len, hlen, Nat.le_refl _⟩
    · rw [upd_other _ _ hne, upd_other _ _ hne]
      obtain ⟨b1, b2, b3⟩ := h.bnd j hj hLj
      exact ⟨b1, b2, by omega⟩

theorem act_put_get (a : Act) (d : Option Tmp) (x : Value) (t : Nat) (h : ∀ d', d = some d' → d' < a.tmps.size) : (a.put d x).tmps.getD t undef = if d = some t then x else a.tmps.getD t undef := by
  cases d with
  | none => simp [Act.put]
  | some d =>
    have := h d rfl
    simp only [Act.put]
    by_cases e : d = t
    · subst e; rw [if_pos rfl]; simp [Array.getD_eq_getD_getElem?, this]
    · rw [if_neg (fun h => e (Option.some.inj h))]; simp [Array.getD_eq_getD_getElem?, e]
theorem act_put_size (a : Act) (d : Option Tmp) (x : Value) : (a.put d x).tmps.size = a.tmps.size := by cases d <;> simp [Act.put]
theorem act_put_defers (a : Act) (d : Option Tmp) (x : Value) : (a.put d x).defers = a.defers := by cases d <;> rfl

/-- One that was laid aside comes. -/
theorem Sit.come (hp : PlanOK ops befs) (h : Sit X K w0 ops befs tm0 N ds E0 st0 V lo hi dn L tm st E w a lds) {i : Nat} {o : Oper} (ho : ops[i]? = some o) (hd : Nat.testBit dn i = true) (hLi : L i = false) (hn : dstLt N o = true) (hedges : ∀ e ∈ o.after.toList, bindsE e = true → L e.on = true)
    {E' : Env} {w' : World} {y : Value} (hE : E.Le E') (hS : StRel X K w0 E' st w') (hv : (V i).den E' = some y) (hkeep : ∀ j, (j < lo i ∨ hi i ≤ j) → E.m[j]? = some none → E'.m[j]? = some none)
    {L' : Nat → Bool} (hL' : ∀ j, L' j = (L j || decide (i = j))) : Sit X K w0 ops befs tm0 N ds E0 st0 V lo hi dn L' tm st E' w' (a.put o.dst y) lds := by
  have hlen := hE.len
  have sub : ∀ j, L' j = true → Nat.testBit dn j = true := by
    intro j hj
    rw [hL', Bool.or_eq_true, decide_eq_true_eq] at hj
    rcases hj with hj | rfl
    · exact h.sub j hj
    · exact hd
  have notL : ∀ j, L' j = false → L j = false ∧ j ≠ i := by
    intro j hj
    rw [hL', Bool.or_eq_false_iff, decide_eq_false_iff_not] at hj
    exact ⟨hj.1, fun e => hj.2 e.symm⟩
  obtain ⟨b1, b2, b3⟩ := h.bnd i hd hLi
  have hdst : ∀ d', o.dst = some d' → d' < a.tmps.size := by
    intro d' e
    unfold dstLt at hn; rw [e] at hn
    rw [h.size]; simpa using hn
  refine ⟨hS, by rw [act_put_size]; exact h.size, by rw [act_put_defers]; exact h.defers.mono hE, fun t => let ⟨x, hx⟩ := h.ok0 t; ⟨x, den_mono hE _ hx⟩, h.tmE, fun t => ?_, sub, h.dlt, ?_, h.clD, fun j hj => (h.okV j hj).mono hE, fun j o' hj hdj hLj => ?_, fun j1 j2 hne h1 l1 h2 l2 => h.disj j1 j2 hne h1 (notL _ l1).1 h2 (notL _ l2).1, fun j hj hLj => ?_, h.e0.trans hE, fun k hk => ?_⟩
  · rw [act_put_get _ _ _ _ hdst]
    have e1 : cur ops tm0 V L' t = cur ops tm0 (upd V i (V i)) L' t := cur_congr fun j _ => ⟨rfl, fun _ => by by_cases e : j = i <;> simp [upd, e]⟩
    rw [e1, cur_add hp ho hL' (V i) t hLi]
    by_cases c : o.dst = some t
    · rw [if_pos c, if_pos c]; exact ⟨y, hv, rfl⟩
    · rw [if_neg c, if_neg c]
      obtain ⟨x, h1, h2⟩ := h.real t
      exact ⟨x, den_mono hE _ h1, h2⟩
  · intro j o' hj hLj e he hb
    rw [hL', Bool.or_eq_true, decide_eq_true_eq] at hLj
    rw [hL']
    rcases hLj with hLj | rfl
    · rw [h.clL j o' hj hLj e he hb]; rfl
    · rw [ho] at hj; cases hj
      rw [hedges e he hb]; rfl
  · obtain ⟨l1, l2⟩ := notL j hLj
    refine (h.pend j o' hj hdj l1).step hE (fun k k1 k2 hk => ⟨hkeep k ?_ hk, rfl, rfl⟩) (fun _ _ _ hl => hl) (fun _ hl => hl) fun _ _ => rfl
    rcases h.disj i j (fun e => l2 e.symm) hd hLi hdj l1 with c | c
    · exact .inr (by omega)
    · exact .inl (by omega)
  · obtain ⟨c1, c2, c3⟩ := h.bnd j hj (notL j hLj).1
    exact ⟨c1, c2, by omega⟩
  · obtain ⟨c1, c2⟩ := h.hp0 k hk
    exact ⟨hkeep k (.inl (by have := (List.getElem?_eq_some_iff.1 hk).1; omega)) c1, c2⟩

/-- One that changes memory comes. -/
theorem Sit.act (hp : PlanOK ops befs) (h : Sit X K w0 ops befs tm0 N ds E0 st0 V lo hi dn L tm st E w a lds) {i : Nat} {o : Oper} (ho : ops[i]? = some o) (hd : Nat.testBit dn i = false) (hb : ∀ j, bef befs i j = true → Nat.testBit dn j = true) (hn : dstLt N o = true) (hedges : ∀ e ∈ o.after.toList, bindsE e = true → L e.on = true)
    {v : AV} {st' : St} {E' : Env} {w' : World} {y : Value} (hE : E.Le E') (hS : StRel X K w0 E' st' w') (hH : HP E E' st st') (hv : v.den E' = some y)
    (hld : ∀ l ∈ lds, bef befs i l.i = false → loadVar X.cx st l.n l.a = some l.v → loadVar X.cx st' l.n l.a = some l.v)
    {L' : Nat → Bool} (hL' : ∀ j, L' j = (L j || decide (i = j))) :
    Sit X K w0 ops befs tm0 N ds E0 st0 (upd V i v) lo hi (Nat.lor dn (Nat.pow 2 i)) L' (putD tm o.dst v) st' E' w' (a.put o.dst y) lds := by
  have hLi : L i = false := by
    cases e : L i with
    | false => rfl
    | true => rw [h.sub i e] at hd; cases hd
  have hbit := lor_bit dn i
  have hlt := (List.getElem?_eq_some_iff.1 ho).1
  have hlen := hE.len
  have old : ∀ j, Nat.testBit (Nat.lor dn (Nat.pow 2 i)) j = true → j = i ∨ (j ≠ i ∧ Nat.testBit dn j = true) := by
    intro j hj
    rw [hbit, Bool.or_eq_true, decide_eq_true_eq] at hj
    by_cases e : j = i
    · exact .inl e
    · exact .inr ⟨e, hj.resolve_right fun h => e h.symm⟩
  have notL : ∀ j, L' j = false → L j = false ∧ j ≠ i := by
    intro j hj
    rw [hL', Bool.or_eq_false_iff, decide_eq_false_iff_not] at hj
    exact ⟨hj.1, fun e => hj.2 e.symm⟩
  have oldP : ∀ j, Nat.testBit (Nat.lor dn (Nat.pow 2 i)) j = true → L' j = false → Nat.testBit dn j = true ∧ L j = false ∧ j ≠ i := by
    intro j hj hl
    obtain ⟨l1, l2⟩ := notL j hl
    rcases old j hj with e | ⟨_, e⟩
    · exact absurd e l2
    · exact ⟨e, l1, l2⟩
  have befL : ∀ j, bef befs i j = true → L j = true := closed_edges hp h.clL i o ho hedges
  have hdst : ∀ d', o.dst = some d' → d' < a.tmps.size := by
    intro d' e
    unfold dstLt at hn; rw [e] at hn
    rw [h.size]; simpa using hn
  refine ⟨hS, by rw [act_put_size]; exact h.size, by rw [act_put_defers]; exact h.defers.mono hE, fun t => let ⟨x, hx⟩ := h.ok0 t; ⟨x, den_mono hE _ hx⟩, fun t => ?_, fun t => ?_, fun j hj => ?_, fun j hj => ?_, ?_, fun j m hj hm => ?_, fun j hj => ?_, fun j o' hj hdj hLj => ?_, fun j1 j2 hne h1 l1 h2 l2 => ?_, fun j hj hLj => ?_, h.e0.trans hE, h.hp0.trans hH⟩
  · rw [slot_putD, cur_add hp ho hbit v t hd, h.tmE]
  · rw [act_put_get _ _ _ _ hdst, cur_add hp ho hL' v t hLi]
    by_cases c : o.dst = some t
    · rw [if_pos c, if_pos c]; exact ⟨y, hv, rfl⟩
    · rw [if_neg c, if_neg c]
      obtain ⟨x, h1, h2⟩ := h.real t
      exact ⟨x, den_mono hE _ h1, h2⟩
  · rw [hL', Bool.or_eq_true, decide_eq_true_eq] at hj
    rw [hbit, Bool.or_eq_true, decide_eq_true_eq]
    exact hj.imp (h.sub j) id
  · rcases old j hj with rfl | ⟨_, hj⟩
    · exact hlt
    · exact h.dlt j hj
  · intro j o' hj hLj e he hb
    rw [hL', Bool.or_eq_true, decide_eq_true_eq] at hLj
    rw [hL']
    rcases hLj with hLj | rfl
    · rw [h.clL j o' hj hLj e he hb]; rfl
    · rw [ho] at hj; cases hj
      rw [hedges e he hb]; rfl
  · rw [hbit]
    rcases old j hj with rfl | ⟨_, hj⟩
    · rw [hb m hm]; rfl
    · rw [h.clD j m hj hm]; rfl
  · rcases old j hj with rfl | ⟨hne, hj⟩
    · rw [upd_same]; exact okv_of hv
    · rw [upd_other _ _ hne]; exact (h.okV j hj).mono hE
  · obtain ⟨hdk, l1, l2⟩ := oldP j hdj hLj
    refine (h.pend j o' hj hdk l1).step hE (fun k _ _ hk => let ⟨a, b, c, _⟩ := hH k hk; ⟨a, b, c⟩) (fun n x hl h0 => ?_) (fun _ hl => hl) fun m hm => upd_other _ _ ?_
    · have hnb : bef befs i j = false := by
        cases e : bef befs i j with
        | false => rfl
        | true => rw [befL j e] at l1; cases l1
      exact hld _ hl hnb h0
    · rintro rfl
      rcases hm with e | e
      · exact l2 e.symm
      · rw [h.clD j m hdk e] at hd; cases hd
  · obtain ⟨p1, q1, _⟩ := oldP j1 h1 l1
    obtain ⟨p2, q2, _⟩ := oldP j2 h2 l2
    exact h.disj j1 j2 hne p1 q1 p2 q2
  · obtain ⟨p1, q1, _⟩ := oldP j hj hLj
    obtain ⟨c1, c2, c3⟩ := h.bnd j p1 q1
    exact ⟨c1, c2, by omega⟩
end
end Go.Sy
