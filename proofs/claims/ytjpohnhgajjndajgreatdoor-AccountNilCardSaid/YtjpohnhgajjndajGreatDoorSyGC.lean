import Derived.Test.YtjpohnhgajjndajGreatDoorSyGB
/-! Statements whose order is drawn: whole. -/
namespace Go.Sy
section
variable {X : Tabs} {K : Nat → Prop} {w0 : World} {ops : Array Oper} {befs : List Nat} {tm0 : Tm} {N : Nat} {ds : List Nat} {V : Nat → AV} {lo hi : Nat → Nat} {dn : Nat} {L : Nat → Bool} {tm : Tm} {st st0 : St} {E E0 : Env} {w : World} {a : Act} {lds : List Ld}
variable {Θ : Pred} {R : List Back} {rec : Rec} {k : Tm → St → VC}

theorem schK_mov (i : Nat) (o : BOper) (r : Sch) : schK X.cx rec (.mov i o r) tm st lds k = guardK tm o.g st (fun st => xop o.op X.cx rec tm st fun v st => putDK tm v (fun tm' => schK X.cx rec r tm' st (noteL i tm v lds o.op) k) o.dst) (fun st => putDK tm (.tuple []) (fun tm => schK X.cx rec r tm st lds k) o.dst) := rfl
theorem schK_eff (i m : Nat) (o : BOper) (r : Sch) : schK X.cx rec (.eff i m o r) tm st lds k = guardK tm o.g st (fun st => xop o.op X.cx rec tm st fun v st => vif (ldsOK X.cx st m lds) (putDK tm v (fun tm => schK X.cx rec r tm st lds k) o.dst)) (fun st => putDK tm (.tuple []) (fun tm => schK X.cx rec r tm st lds k) o.dst) := rfl
theorem altS_all {f : Nat × Nat × BOper → Sch} : ∀ {l : List (Nat × Nat × BOper)} {p : Nat × Nat × BOper}, (schK X.cx rec (altS f l) tm st lds k).holds Θ E.va R → p ∈ l → (schK X.cx rec (f p) tm st lds k).holds Θ E.va R
  | [], p, _, hp => by cases hp
  | [q], p, h, hp => by rw [List.mem_singleton.1 hp]; exact h
  | q :: q2 :: r, p, h, hp => by
    have h : (schK X.cx rec (f q) tm st lds k).holds Θ E.va R ∧ (schK X.cx rec (altS f (q2 :: r)) tm st lds k).holds Θ E.va R := h
    rcases List.mem_cons.1 hp with rfl | hp
    · exact h.1
    · exact altS_all h.2 hp
noncomputable def zops (X : Tabs) (ops : Array Oper) (befs : List Nat) : List (BOper × Nat) := zipL (mapL (cOper X.cx.und X.cx.size X.cx.zero ops.toList) ops.toList) befs
theorem zops_get {j : Nat} {o : BOper} {b : Nat} (h : (zops X ops befs)[j]? = some (o, b)) : ∃ oj, ops.toList[j]? = some oj ∧ o = cOper X.cx.und X.cx.size X.cx.zero ops.toList oj ∧ befs[j]? = some b ∧ ∀ m, bef befs j m = Nat.testBit b m := by
  obtain ⟨h1, h2⟩ := zipL_get.1 h
  rw [mapL_eq, List.getElem?_map] at h1
  cases hj : ops.toList[j]? with
  | none => rw [hj] at h1; cases h1
  | some oj =>
    rw [hj] at h1
    exact ⟨oj, rfl, (Option.some.inj h1).symm, h2, fun m => by unfold bef; rw [h2]; rfl⟩
theorem zops_of (hp : PlanOK ops.toList befs) {j : Nat} {oj : Oper} (h : ops.toList[j]? = some oj) : ∃ b, (zops X ops befs)[j]? = some (cOper X.cx.und X.cx.size X.cx.zero ops.toList oj, b) ∧ ∀ m, bef befs j m = Nat.testBit b m := by
  obtain ⟨b, hb⟩ := hp.some_ j oj h
  refine ⟨b, zipL_get.2 ⟨?_, hb⟩, fun m => by unfold bef; rw [hb]; rfl⟩
  rw [mapL_eq, List.getElem?_map, h]; rfl

theorem mkSch_succ (l : List (BOper × Nat)) (full n dn : Nat) : mkSch l full (n + 1) dn = bif_ (Nat.beq dn full) .done
    (Option.rec (altS (fun p => .eff p.1 p.2.1 p.2.2 (mkSch l full n (Nat.lor dn (Nat.pow 2 p.1)))) (pickE dn l 0)) (fun p => .mov p.1 p.2 (mkSch l full n (Nat.lor dn (Nat.pow 2 p.1)))) (pickM dn l 0)) := rfl
theorem mkSch_zero (l : List (BOper × Nat)) (full dn : Nat) : mkSch l full 0 dn = bif_ (Nat.beq dn full) .done .bad := rfl
theorem hp_of {E E' : Env} {st st' : St} (h : HP E E' st st') : HP E E' st st' := h

/-- All that may be laid aside is laid aside. -/
theorem advance (hc : CxOK X K w0) (hp : PlanOK ops.toList befs) {full : Nat} : ∀ (n dn : Nat) (V : Nat → AV) (lo hi : Nat → Nat) (tm : Tm) (st : St) (E : Env) (lds : List Ld), Sit X K w0 ops.toList befs tm0 N ds E0 st0 V lo hi dn L tm st E w a lds →
    (schK X.cx rec (mkSch (zops X ops befs) full n dn) tm st lds k).holds Θ E.va R →
    ∃ n' dn' V' lo' hi' tm' st' E' lds', Sit X K w0 ops.toList befs tm0 N ds E0 st0 V' lo' hi' dn' L tm' st' E' w a lds' ∧ (schK X.cx rec (mkSch (zops X ops befs) full n' dn') tm' st' lds' k).holds Θ E'.va R ∧
      (dn' = full ∨ ∃ m, n' = m + 1 ∧ pickM dn' (zops X ops befs) 0 = none) := by
  intro n
  induction n with
  | zero =>
    intro dn V lo hi tm st E lds hS h
    refine ⟨0, dn, V, lo, hi, tm, st, E, lds, hS, h, .inl ?_⟩
    rw [mkSch_zero, beq_iff] at h
    by_cases e : dn = full
    · exact e
    · rw [decide_eq_false e] at h; exact h.elim
  | succ n ih =>
    intro dn V lo hi tm st E lds hS h
    by_cases e : dn = full
    · exact ⟨n + 1, dn, V, lo, hi, tm, st, E, lds, hS, h, .inl e⟩
    cases hM : pickM dn (zops X ops befs) 0 with
    | none => exact ⟨n + 1, dn, V, lo, hi, tm, st, E, lds, hS, h, .inr ⟨n, rfl, hM⟩⟩
    | some p =>
      obtain ⟨i, o⟩ := p
      rw [mkSch_succ, beq_iff, decide_eq_false e, bif_false, hM] at h
      have h : (schK X.cx rec (.mov i o (mkSch (zops X ops befs) full n (Nat.lor dn (Nat.pow 2 i)))) tm st lds k).holds Θ E.va R := h
      obtain ⟨j, b, hij, hz, hready, hne⟩ := pickM_some hM
      have hij : i = j := by omega
      subst hij
      obtain ⟨oj, ho, rfl, hbi, hbef⟩ := zops_get hz
      obtain ⟨hdi, hsub⟩ := readyN_iff.1 hready
      have hb : ∀ m, bef befs i m = true → Nat.testBit dn m = true := fun m hm => hsub m (by rw [← hbef]; exact hm)
      have hO := hS.oks
      rw [schK_mov] at h
      have hgrd : (cOper X.cx.und X.cx.size X.cx.zero ops.toList oj).g = grdP ops.toList oj.guard := rfl
      have hdst : (cOper X.cx.und X.cx.size X.cx.zero ops.toList oj).dst = dstP oj.dst := rfl
      rw [hgrd, hdst] at h
      have hok : grdOK ops.toList oj.guard = true := by
        cases hg : grdOK ops.toList oj.guard with
        | true => rfl
        | false =>
          rw [grd_of hg] at h
          exact absurd (cOper_inv h).1 (by rw [hg]; simp)
      obtain ⟨f, t, hf, hw, h⟩ := guardK_inv hok h hS.sr.facts hO
      have hS' := hS.sr.withF hf
      rcases h with ⟨ht, h⟩ | ⟨ht, h⟩
      · obtain ⟨_, bo, hbo, hbe⟩ := cOper_inv h
        rw [hbe] at h hne
        obtain ⟨v, st', E', h1, h2, h3, h4, h5, h6, h7, h8, h9⟩ := mov_out hc hS' hO hbo hne h
        simp only [] at h1
        rw [putDK_dst] at h1
        have hkeep : KeepH st st' := fun j b hj => h6 j b (by rw [withF_heap]; exact hj)
        have hH : HP E E' st st' := (hp_withF E st f).trans h4
        refine ih _ _ _ _ _ _ _ _ (hS.lay hp ho hdi hb h2 h3 hH h5 hkeep (fun l hl => noteL_mem l hl) ⟨tm, t, E, fun m hm => ?_, h2, fun E' val hE hval => hw E' val hE hval, .inr ⟨ht, bo, E, E', st', hbo, .refl E', rfl, rfl, fun m h1 h2 => ⟨h7 m h1 h2, rfl, rfl⟩, by rw [upd_same]; exact h9, by rw [upd_same]; exact h8, fun n a x e hx => ?_⟩⟩) h1
        · rw [hS.tmNames hp ho hdi hb hm]
          exact cur_congr fun j _ => ⟨rfl, fun hj => (upd_other _ _ (by rintro rfl; rw [hb j hj] at hdi; cases hdi)).symm⟩
        · rw [upd_same]
          subst e
          exact noteL_new hx
      · rw [putDK_dst] at h
        refine ih _ _ _ _ _ _ _ _ (hS.lay hp ho hdi hb (.refl E) hS' (hp_withF E st f) ⟨undef, rfl⟩ (fun j b hj => by rw [withF_heap]; exact hj) (fun _ hl => hl) ⟨tm, t, E, fun m hm => ?_, .refl E, fun E' val hE hval => hw E' val hE hval, .inl ⟨ht, upd_same _ _ _⟩⟩) h
        rw [hS.tmNames hp ho hdi hb hm]
        exact cur_congr fun j _ => ⟨rfl, fun hj => (upd_other _ _ (by rintro rfl; rw [hb j hj] at hdi; cases hdi)).symm⟩

theorem set_L {listed : Array Bool} {i : Nat} (hi : i < listed.size) (j : Nat) : (listed.setIfInBounds i true).getD j false = (listed.getD j false || decide (i = j)) := by
  rw [getD_set hi]
  by_cases e : j = i
  · subst e; simp
  · rw [if_neg e, decide_eq_false (fun h => e h.symm), Bool.or_false]

theorem any_ok (hc : CxOK X K w0) (hr : RecOK X K w0 Θ rec) (hp : PlanOK ops.toList befs) (hdl : ops.toList.all (dstLt N) = true) {r : Option Nat} {kk : Res → VC} {R0 : List Back} : ∀ (fuel : Nat) (listed : Array Bool) (a : Act) (w : World) (n dn : Nat) (V : Nat → AV) (lo hi : Nat → Nat) (tm : Tm) (st : St) (E : Env) (lds : List Ld) (R : List Back), listed.size = ops.size →
    (∃ unl : List Nat, unl.length = fuel ∧ ∀ j, j < ops.size → listed.getD j false = false → j ∈ unl) →
    Sit X K w0 ops.toList befs tm0 N ds E0 st0 V lo hi dn (fun j => listed.getD j false) tm st E w a lds → R0 <+: R →
    (schK X.cx rec (mkSch (zops X ops befs) (Nat.sub (Nat.pow 2 ops.toList.length) 1) n dn) tm st lds fun tm st => kk (.code .normal tm ds st)).holds Θ E.va R →
    wpAnyIn (FW r) 0 X.P .any ops (CodeOut X K w0 Θ R0 E0 st0 N kk) fuel listed a w := by
  intro fuel
  have fin : ∀ (listed : Array Bool) (a : Act) (w : World) (n dn : Nat) (V : Nat → AV) (lo hi : Nat → Nat) (tm : Tm) (st : St) (E : Env) (lds : List Ld) (R : List Back), listed.size = ops.size →
      Sit X K w0 ops.toList befs tm0 N ds E0 st0 V lo hi dn (fun j => listed.getD j false) tm st E w a lds → R0 <+: R →
      (schK X.cx rec (mkSch (zops X ops befs) (Nat.sub (Nat.pow 2 ops.toList.length) 1) n dn) tm st lds fun tm st => kk (.code .normal tm ds st)).holds Θ E.va R →
      Region.ready .any ops listed = [] → CodeOut X K w0 Θ R0 E0 st0 N kk .normal a w := by
    intro listed a w n dn V lo hi tm st E lds R hsz hS hR h hrd
    have hall := all_listed hp hsz hrd
    have hfull : dn = Nat.sub (Nat.pow 2 ops.toList.length) 1 := full_of (fun j hj => hS.sub j (hall j (by simpa using hj))) hS.dlt
    have h : (kk (.code .normal tm ds st)).holds Θ E.va R := by
      cases n with
      | zero => rw [mkSch_zero, beq_iff, decide_eq_true hfull] at h; exact h
      | succ n => rw [mkSch_succ, beq_iff, decide_eq_true hfull] at h; exact h
    refine ⟨.normal, tm, ds, st, E, R, rfl, hR, h, hS.e0, hS.sr, hS.hp0, hS.size, hS.defers, ⟨fun t => ?_⟩⟩
    obtain ⟨x, h1, h2⟩ := hS.real t
    refine ⟨x, ?_, h2⟩
    rw [hS.tmE]
    have : cur ops.toList tm0 V (Nat.testBit dn) t = cur ops.toList tm0 V (fun j => listed.getD j false) t := cur_congr fun j hj => by
      obtain ⟨o, ho, _⟩ := wr_some hj
      have hlt := (List.getElem?_eq_some_iff.1 ho).1
      have hL := hall j (by simpa using hlt)
      exact ⟨by rw [hS.sub j hL]; exact hL.symm, fun _ => rfl⟩
    rw [this]; exact h1
  induction fuel with
  | zero =>
    intro listed a w n dn V lo hi tm st E lds R hsz ⟨unl, hun, hmem⟩ hS hR h
    have hnil : Region.ready .any ops listed = [] := by
      apply List.eq_nil_iff_forall_not_mem.2
      intro i hi
      obtain ⟨o, ho, hL, _⟩ := (mem_ready hsz).1 hi
      have hlt := (List.getElem?_eq_some_iff.1 ho).1
      have := hmem i (by simpa using hlt) hL
      rw [List.eq_nil_of_length_eq_zero hun] at this
      cases this
    exact ⟨hnil, fin listed a w n dn V lo hi tm st E lds R hsz hS hR h hnil⟩
  | succ fuel ih =>
    intro listed a w n dn V lo hi tm st E lds R hsz ⟨unl, hun, hmem⟩ hS hR h
    refine ⟨fun hnil => fin listed a w n dn V lo hi tm st E lds R hsz hS hR h hnil, fun i hi' => ?_⟩
    obtain ⟨o, ho, hLi, hedges⟩ := (mem_ready hsz).1 hi'
    have hlt := (List.getElem?_eq_some_iff.1 ho).1
    have hiops : ops[i]? = some o := by simpa using ho
    have hil : i < listed.size := by rw [hsz]; simpa using hlt
    have hL' := fun j => set_L hil j
    have hun' : ∃ unl : List Nat, unl.length = fuel ∧ ∀ j, j < ops.size → (listed.setIfInBounds i true).getD j false = false → j ∈ unl := by
      refine ⟨unl.erase i, ?_, fun j hj hLj => ?_⟩
      · rw [List.length_erase_of_mem (hmem i (by simpa using hlt) hLi), hun]; rfl
      · rw [hL', Bool.or_eq_false_iff, decide_eq_false_iff_not] at hLj
        exact (List.mem_erase_of_ne (fun e => hLj.2 e.symm)).2 (hmem j hj hLj.1)
    have hsz' : (listed.setIfInBounds i true).size = ops.size := by simp [hsz]
    have hdo : dstLt N o = true := List.all_eq_true.1 hdl o (List.mem_of_getElem? ho)
    obtain ⟨n', dn', V', lo', hi2, tm', st', E', lds', hS2, h2, hend⟩ := advance hc hp n dn V lo hi tm st E lds hS h
    have hbefL : ∀ j, bef befs i j = true → listed.getD j false = true := closed_edges hp hS2.clL i o ho hedges
    have hb : ∀ j, bef befs i j = true → Nat.testBit dn' j = true := fun j hj => hS2.sub j (hbefL j hj)
    have hname : ∀ (tmi : Tm), (∀ m ∈ namesOf ops.toList o, slot tmi (pth m) = cur ops.toList tm0 V' (bef befs i) m) → ∀ m ∈ namesOf ops.toList o, (slot tmi (pth m)).den E' = some (a.tmps.getD m undef) := fun tmi htm m hm => by
      rw [htm m hm]; exact hS2.names hp ho hLi hbefL hm
    unfold wpOpIn
    simp only [hiops]
    rw [wanted_eq]
    cases hdi : Nat.testBit dn' i with
    | true =>
      obtain ⟨tmi, t, Eg, p1, p2, p3, p4⟩ := (hS2.pend i o ho hdi hLi).ex
      have hwant := p3 E' (fun d => a.tmps.getD d undef) p2 fun d hd => hname tmi p1 d (names_grd hd)
      rcases p4 with ⟨ht, hV⟩ | ⟨ht, b, E1, E2, st2, q1, q2, q3, q4, q5, q6, q7, q8⟩
      · rw [hwant, ht]
        simp only [Bool.false_eq_true, if_false]
        refine ⟨about_FW _ _ _ _, ?_⟩
        refine ih _ _ _ n' dn' V' lo' hi2 tm' st' E' lds' R hsz' hun' ?_ hR h2
        exact hS2.come hp ho hdi hLi hdo hedges (.refl E') hS2.sr (by rw [hV]; rfl) (fun _ _ h => h) hL'
      · rw [hwant, ht]
        simp only [if_true]
        have hrd : Rd E' tmi a.eval o.op.operands.toList := Rd.act fun m hm => hname tmi p1 m (names_tmp hm)
        obtain ⟨E3, y, w3, g1, g2, g3, g4, g5, g6⟩ := q6 E' st' w a.eval q2 (by rw [q3, q4]; exact q5) hS2.sr hrd q7
        refine OpRes.wpIn (G := fun v' w' => v' = y ∧ w' = w3) (op_notDefer q1) (by rw [g3]; exact ⟨rfl, rfl⟩) fun v' w' hvw => ?_
        obtain ⟨rfl, rfl⟩ := hvw
        refine ih _ _ _ n' dn' V' lo' hi2 tm' st' E3 lds' R hsz' hun' ?_ hR (by rw [g2]; exact h2)
        exact hS2.come hp ho hdi hLi hdo hedges g1 g4 g5 (fun j hj hn => g6 j (by rw [q3, q4]; exact hj) hn) hL'
    | false =>
      have hne : dn' ≠ Nat.sub (Nat.pow 2 ops.toList.length) 1 := by
        intro e
        rw [e] at hdi
        have : Nat.testBit (2 ^ ops.toList.length - 1) i = false := hdi
        rw [Nat.testBit_two_pow_sub_one] at this
        simp at this hlt; omega
      obtain ⟨m, hm, hnone⟩ : ∃ m, n' = m + 1 ∧ pickM dn' (zops X ops befs) 0 = none := hend.resolve_left hne
      subst hm
      rw [mkSch_succ, beq_iff, decide_eq_false hne, bif_false, hnone] at h2
      obtain ⟨b, hz, hbef⟩ := zops_of (X := X) hp ho
      have hready : readyN dn' (0 + i) b = true := by
        rw [Nat.zero_add]
        exact readyN_iff.2 ⟨hdi, fun j hj => hb j (by rw [hbef]; exact hj)⟩
      have heff := pickM_none hnone i _ b hz hready
      have hmemE := pickE_mem hz hready heff
      rw [Nat.zero_add] at hmemE
      have h3 := altS_all h2 hmemE
      simp only [] at h3
      rw [schK_eff] at h3
      have hgrd : (cOper X.cx.und X.cx.size X.cx.zero ops.toList o).g = grdP ops.toList o.guard := rfl
      have hdst : (cOper X.cx.und X.cx.size X.cx.zero ops.toList o).dst = dstP o.dst := rfl
      rw [hgrd, hdst] at h3
      have hO := hS2.oks
      have hok : grdOK ops.toList o.guard = true := by
        cases hg : grdOK ops.toList o.guard with
        | true => rfl
        | false =>
          rw [grd_of hg] at h3
          exact absurd (cOper_inv h3).1 (by rw [hg]; simp)
      obtain ⟨f, t, hf, hw, h4⟩ := guardK_inv hok h3 hS2.sr.facts hO
      have htm := fun m hm => hS2.tmNames hp ho hdi hb (t := m) hm
      have hwant := hw E' (fun d => a.tmps.getD d undef) (.refl E') fun d hd => hname tm' htm d (names_grd hd)
      have hS' := hS2.sr.withF hf
      rcases h4 with ⟨ht, h4⟩ | ⟨ht, h4⟩
      · rw [hwant, ht]
        simp only [if_true]
        obtain ⟨_, bo, hbo, hbe⟩ := cOper_inv h4
        rw [hbe] at h4 heff
        have hout := op_eff hc hr hS' hO hbo heff h4
        have hrd : Rd E' tm' a.eval o.op.operands.toList := Rd.act fun m hm => hname tm' htm m (names_tmp hm)
        refine OpRes.wpIn (op_notDefer hbo) (hout a.eval hrd) fun y w' ho' => ?_
        obtain ⟨v, st2, E2, R2, g1, g2, g3, g4, g5, g6⟩ := ho'
        simp only [] at g2
        obtain ⟨hlds, g2⟩ := vif_inv g2
        rw [putDK_dst] at g2
        refine ih _ _ _ m _ (upd V' i v) lo' hi2 _ st2 E2 lds' R2 hsz' hun' ?_ (hR.trans g1) g2
        refine hS2.act hp ho hdi hb hdo hedges g3 g4 ((hp_withF E' st' f).trans g5) g6 (fun l hl hbl _ => ldsOK_spec hlds l hl (by rw [← hbef]; exact hbl)) hL'
      · rw [hwant, ht]
        simp only [Bool.false_eq_true, if_false]
        refine ⟨about_FW _ _ _ _, ?_⟩
        rw [putDK_dst] at h4
        refine ih _ _ _ m _ (upd V' i (.tuple [])) lo' hi2 _ _ E' lds' R hsz' hun' ?_ hR h4
        refine hS2.act hp ho hdi hb hdo hedges (.refl E') hS' (hp_withF E' st' f) den_undef (fun l hl hbl hv => loadVar_keep (fun j b hj => by rw [withF_heap]; exact hj) hv) hL'
theorem draw_ok (hc : CxOK X K w0) (hr : RecOK X K w0 Θ rec) {id : Nat} {r : Option Nat} {kk : Res → VC} (hdl : ops.toList.all (dstLt N) = true) (hS : StRel X K w0 E st w) (hT : TmRel E tm ds a N)
    (h : (schK X.cx rec (schOf X.cx.und X.cx.size X.cx.zero ops.toList) tm st [] fun tm st => kk (.code .normal tm ds st)).holds Θ E.va R) : (Code.region id ops true).wpIn (FW r) 0 X.P (CodeOut X K w0 Θ R E st N kk) a w := by
  unfold schOf at h
  cases hb : befsOf ops.toList [] with
  | none => rw [hb] at h; exact h.elim
  | some befs =>
    rw [hb] at h
    simp only at h
    cases hq : allSlots befs ops.toList ops.toList 0 && onceD ops.toList with
    | false => rw [hq] at h; exact h.elim
    | true =>
      rw [hq, bif_true, lenL_eq] at h
      have hp := plan_ok hb hq
      refine wpIn_region_any X.mixed ?_
      have hbits : ∀ j, Nat.testBit 0 j = false := fun j => Nat.zero_testBit j
      refine any_ok hc hr hp hdl (tm0 := tm) ops.size _ a _ ops.toList.length 0 (fun _ => .tuple []) (fun _ => 0) (fun _ => 0) tm st E [] R (by simp) ⟨List.range ops.size, by simp, fun j hj _ => by simpa using hj⟩ ?_ List.prefix_rfl h
      have hL0 : ∀ j, (Array.replicate ops.size false).getD j false = false := by
        intro j
        simp only [Array.getD_eq_getD_getElem?, Array.getElem?_replicate]
        split <;> rfl
      refine ⟨hS.drawn _, hT.size, hT.defers, fun t => let ⟨x, h1, _⟩ := hT.rel.slots t; ⟨x, h1⟩, fun t => ?_, fun t => ?_, fun j hj => ?_, fun j hj => ?_, fun i o _ hL => ?_, fun i j hi => ?_, fun j hj => ?_, fun j o _ hj => ?_, fun i j _ hi => ?_, fun i hi => ?_, .refl E, .refl E st⟩
      · unfold cur; cases wr ops.toList t <;> simp
      · obtain ⟨x, h1, h2⟩ := hT.rel.slots t
        refine ⟨x, ?_, h2⟩
        unfold cur
        cases wr ops.toList t with
        | none => exact h1
        | some j => simp only [hL0]; exact h1
      · rw [hL0] at hj; cases hj
      · rw [hbits] at hj; cases hj
      · rw [hL0] at hL; cases hL
      · rw [hbits] at hi; cases hi
      · rw [hbits] at hj; cases hj
      · rw [hbits] at hj; cases hj
      · rw [hbits] at hi; cases hi
      · rw [hbits] at hi; cases hi
end
end Go.Sy
