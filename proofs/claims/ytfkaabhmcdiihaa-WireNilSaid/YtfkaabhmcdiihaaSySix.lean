import Derived.Test.YtfkaabhmcdiihaaSyFive
import Derived.ProofKit
import Derived.WideKeyArgs
import Derived.OpenShut
import Derived.ChangeArms
import Derived.MakeChecks
/-! Statements whose order is drawn: whole. -/
namespace Go.Sy
section
variable {X : Tabs} {K : Nat → Prop} {w0 : World} {ops : Array Oper} {befs : List Nat} {tm0 : Tm} {N : Nat} {ds : List Nat} {V : Nat → AV} {lo hi : Nat → Nat} {dn : Nat} {L : Nat → Bool} {tm : Tm} {st st0 : St} {E E0 : Env} {w : World} {a : Act} {lds : List Ld}
variable {Θ : Pred} {R : List Back} {rec : Rec} {k : Tm → St → VC}

theorem schK_mov (i : Nat) (o : BOper) (r : Sch) : schK X.cx rec (.mov i o r) tm st lds k = guardK tm o.g st (fun st => xop o.op X.cx rec tm st fun v st => putDK tm v (fun tm' => schK X.cx rec r tm' st (noteL i tm v lds o.op) k) o.dst) (fun st => putDK tm (.tuple []) (fun tm => schK X.cx rec r tm st lds k) o.dst) := rfl
theorem schK_eff (i m : Nat) (o : BOper) (r : Sch) : schK X.cx rec (.eff i m o r) tm st lds k = guardK tm o.g st (fun st => xop o.op X.cx rec tm st fun v st => vif (ldsOK X.cx st m lds) (putDK tm v (fun tm => schK X.cx rec r tm st lds k) o.dst)) (fun st => putDK tm (.tuple []) (fun tm => schK X.cx rec r tm st lds k) o.dst) := rfl
theorem altS_all {f : Nat × Nat × BOper → Sch} : ∀ {l : List (Nat × Nat × BOper)} {p : Nat × Nat × BOper}, (schK X.cx rec (altS f l) tm st lds k).holds Θ E.va R → p ∈ l → (schK X.cx rec (f p) tm st lds k).holds Θ E.va R
  | [], p, _, hp => by cases hp
  | [q], p, h, hp => by rw [List.mem_singleton.1 hp]; exact h
  | q :: q2 :: r, p, h, hp => by
    have h : (schK X.cx rec (f q) tm st lds k).holds Θ E.va R ∧ (schK X.cx rec (altS f (q2 :: r)) tm st lds k).holds Θ E.va R := h
    rcases List.mem_cons.1 hp with rfl | hp
    · exact h.1
    · exact altS_all h.2 hp
noncomputable def zops (X : Tabs) (ops : Array Oper) (befs : List Nat) : List (BOper × Nat) := zipL (mapL (cOper X.cx.und X.cx.size X.cx.zero ops.toList) ops.toList) befs
theorem zops_get {j : Nat} {o : BOper} {b : Nat} (h : (zops X ops befs)[j]? = some (o, b)) : ∃ oj, ops.toList[j]? = some oj ∧ o = cOper X.cx.und X.cx.size X.cx.zero ops.toList oj ∧ befs[j]? = some b ∧ ∀ m, bef befs j m = Nat.testBit b m := by
  obtain ⟨h1, h2⟩ := zipL_get.1 h
  rw [mapL_eq, List.getElem?_map] at h1
  cases hj : ops.toList[j]? with
  | none => rw [hj] at h1; cases h1
  | some oj =>
    rw [hj] at h1
    exact ⟨oj, rfl, (Option.some.inj h1).symm, h2, fun m => by unfold bef; rw [h2]; rfl⟩
theorem zops_of (hp : PlanOK ops.toList befs) {j : Nat} {oj : Oper} (h : ops.toList[j]? = some oj) : ∃ b, (zops X ops befs)[j]? = some (cOper X.cx.und X.cx.size X.cx.zero ops.toList oj, b) ∧ ∀ m, bef befs j m = Nat.testBit b m := by
  obtain ⟨b, hb⟩ := hp.some_ j oj h
  refine ⟨b, zipL_get.2 ⟨?_, hb⟩, fun m => by unfold bef; rw [hb]; rfl⟩
  rw [mapL_eq, List.getElem?_map, h]; rfl

theorem mkSch_succ (l : List (BOper × Nat)) (full n dn : Nat) : mkSch l full (n + 1) dn = bif_ (Nat.beq dn full) .done
    (Option.rec (altS (fun p => .eff p.1 p.2.1 p.2.2 (mkSch l full n (Nat.lor dn (Nat.pow 2 p.1)))) (pickE dn l 0)) (fun p => .mov p.1 p.2 (mkSch l full n (Nat.lor dn (Nat.pow 2 p.1)))) (pickM dn l 0)) := rfl
theorem mkSch_zero (l : List (BOper × Nat)) (full dn : Nat) : mkSch l full 0 dn = bif_ (Nat.beq dn full) .done .bad := rfl
theorem hp_of {E E' : Env} {st st' : St} (h : HP E E' st st') : HP E E' st st' := h

/-- All that may be laid aside is laid aside. -/
theorem advance (hc : CxOK X K w0) (hp : PlanOK ops.toList befs) {full : Nat} : ∀ (n dn : Nat) (V : Nat → AV) (lo hi : Nat → Nat) (tm : Tm) (st : St) (E : Env) (lds : List Ld), Sit X K w0 ops.toList befs tm0 N ds E0 st0 V lo hi dn L tm st E w a lds →
    (schK X.cx rec (mkSch (zops X ops befs) full n dn) tm st lds k).holds Θ E.va R →
    ∃ n' dn' V' lo' hi' tm' st' E' lds', Sit X K w0 ops.toList befs tm0 N ds E0 st0 V' lo' hi' dn' L tm' st' E' w a lds' ∧ (schK X.cx rec (mkSch (zops X ops befs) full n' dn') tm' st' lds' k).holds Θ E'.va R ∧
      (dn' = full ∨ ∃ m, n' = m + 1 ∧ pickM dn' (zops X ops befs) 0 = none) := by
  intro n
  induction n with
  | zero =>
    intro dn V lo hi tm st E lds hS h
    refine ⟨0, dn, V, lo, hi, tm, st, E, lds, hS, h, .inl ?_⟩
    rw [mkSch_zero, beq_iff] at h
    by_cases e : dn = full
    · exact e
    · rw [decide_eq_false e] at h; exact h.elim
  | succ n ih =>
    intro dn V lo hi tm st E lds hS h
    by_cases e : dn = full
    · exact ⟨n + 1, dn, V, lo, hi, tm, st, E, lds, hS, h, .inl e⟩
    cases hM : pickM dn (zops X ops befs) 0 with
    | none => exact ⟨n + 1, dn, V, lo, hi, tm, st, E, lds, hS, h, .inr ⟨n, rfl, hM⟩⟩
    | some p =>
      obtain ⟨i, o⟩ := p
      rw [mkSch_succ, beq_iff, decide_eq_false e, bif_false, hM] at h
      have h : (schK X.cx rec (.mov i o (mkSch (zops X ops befs) full n (Nat.lor dn (Nat.pow 2 i)))) tm st lds k).holds Θ E.va R := h
      obtain ⟨j, b, hij, hz, hready, hne⟩ := pickM_some hM
      have hij : i = j := by omega
      subst hij
      obtain ⟨oj, ho, rfl, hbi, hbef⟩ := zops_get hz
      obtain ⟨hdi, hsub⟩ := readyN_iff.1 hready
      have hb : ∀ m, bef befs i m = true → Nat.testBit dn m = true := fun m hm => hsub m (by rw [← hbef]; exact hm)
      have hO := hS.oks
      rw [schK_mov] at h
      have hgrd : (cOper X.cx.und X.cx.size X.cx.zero ops.toList oj).g = grdP ops.toList oj.guard := rfl
      have hdst : (cOper X.cx.und X.cx.size X.cx.zero ops.toList oj).dst = dstP oj.dst := rfl
      rw [hgrd, hdst] at h
      have hok : grdOK ops.toList oj.guard = true := by
        cases hg : grdOK ops.toList oj.guard with
        | true => rfl
        | false =>
          rw [grd_of hg] at h
          exact absurd (cOper_inv h).1 (by rw [hg]; simp)
      obtain ⟨f, t, hf, hw, h⟩ := guardK_inv hok h hS.sr.facts hO
      have hS' := hS.sr.withF hf
      rcases h with ⟨ht, h⟩ | ⟨ht, h⟩
      · obtain ⟨_, bo, hbo, hbe⟩ := cOper_inv h
        rw [hbe] at h hne
        obtain ⟨v, st', E', h1, h2, h3, h4, h5, h6, h7, h8, h9⟩ := mov_out hc hS' hO hbo hne h
        simp only [] at h1
        rw [putDK_dst] at h1
        have hkeep : KeepH st st' := fun j b hj => h6 j b (by rw [withF_heap]; exact hj)
        have hH : HP E E' st st' := (hp_withF E st f).trans h4
        refine ih _ _ _ _ _ _ _ _ (hS.lay hp ho hdi hb h2 h3 hH h5 hkeep (fun l hl => noteL_mem l hl) ⟨tm, t, E, fun m hm => ?_, h2, fun E' val hE hval => hw E' val hE hval, .inr ⟨ht, bo, E, E', st', hbo, .refl E', rfl, rfl, fun m h1 h2 => ⟨h7 m h1 h2, rfl, rfl⟩, by rw [upd_same]; exact h9, by rw [upd_same]; exact h8, fun n a x e hx => ?_⟩⟩) h1
        · rw [hS.tmNames hp ho hdi hb hm]
          exact cur_congr fun j _ => ⟨rfl, fun hj => (upd_other _ _ (by rintro rfl; rw [hb j hj] at hdi; cases hdi)).symm⟩
        · rw [upd_same]
          subst e
          exact noteL_new hx
      · rw [putDK_dst] at h
        refine ih _ _ _ _ _ _ _ _ (hS.lay hp ho hdi hb (.refl E) hS' (hp_withF E st f) ⟨undef, rfl⟩ (fun j b hj => by rw [withF_heap]; exact hj) (fun _ hl => hl) ⟨tm, t, E, fun m hm => ?_, .refl E, fun E' val hE hval => hw E' val hE hval, .inl ⟨ht, upd_same _ _ _⟩⟩) h
        rw [hS.tmNames hp ho hdi hb hm]
        exact cur_congr fun j _ => ⟨rfl, fun hj => (upd_other _ _ (by rintro rfl; rw [hb j hj] at hdi; cases hdi)).symm⟩

theorem set_L {listed : Array Bool} {i : Nat} (hi : i < listed.size) (j : Nat) : (listed.setIfInBounds i true).getD j false = (listed.getD j false || decide (i = j)) := by
  rw [getD_set hi]
  by_cases e : j = i
  · subst e; simp
  · rw [if_neg e, decide_eq_false (fun h => e h.symm), Bool.or_false]

theorem any_ok (hc : CxOK X K w0) (hr : RecOK X K w0 Θ rec) (hp : PlanOK ops.toList befs) (hdl : ops.toList.all (dstLt N) = true) {r : Option Nat} {kk : Res → VC} {R0 : List Back} : ∀ (fuel : Nat) (listed : Array Bool) (a : Act) (w : World) (n dn : Nat) (V : Nat → AV) (lo hi : Nat → Nat) (tm : Tm) (st : St) (E : Env) (lds : List Ld) (R : List Back), listed.size = ops.size →
    (∃ unl : List Nat, unl.length = fuel ∧ ∀ j, j < ops.size → listed.getD j false = false → j ∈ unl) →
    Sit X K w0 ops.toList befs tm0 N ds E0 st0 V lo hi dn (fun j => listed.getD j false) tm st E w a lds → R0 <+: R →
    (schK X.cx rec (mkSch (zops X ops befs) (Nat.sub (Nat.pow 2 ops.toList.length) 1) n dn) tm st lds fun tm st => kk (.code .normal tm ds st)).holds Θ E.va R →
    wpAnyIn (FW r) 0 X.P .any ops (CodeOut X K w0 Θ R0 E0 st0 N kk) fuel listed a w := by
  intro fuel
  have fin : ∀ (listed : Array Bool) (a : Act) (w : World) (n dn : Nat) (V : Nat → AV) (lo hi : Nat → Nat) (tm : Tm) (st : St) (E : Env) (lds : List Ld) (R : List Back), listed.size = ops.size →
      Sit X K w0 ops.toList befs tm0 N ds E0 st0 V lo hi dn (fun j => listed.getD j false) tm st E w a lds → R0 <+: R →
      (schK X.cx rec (mkSch (zops X ops befs) (Nat.sub (Nat.pow 2 ops.toList.length) 1) n dn) tm st lds fun tm st => kk (.code .normal tm ds st)).holds Θ E.va R →
      Region.ready .any ops listed = [] → CodeOut X K w0 Θ R0 E0 st0 N kk .normal a w := by
    intro listed a w n dn V lo hi tm st E lds R hsz hS hR h hrd
    have hall := all_listed hp hsz hrd
    have hfull : dn = Nat.sub (Nat.pow 2 ops.toList.length) 1 := full_of (fun j hj => hS.sub j (hall j (by simpa using hj))) hS.dlt
    have h : (kk (.code .normal tm ds st)).holds Θ E.va R := by
      cases n with
      | zero => rw [mkSch_zero, beq_iff, decide_eq_true hfull] at h; exact h
      | succ n => rw [mkSch_succ, beq_iff, decide_eq_true hfull] at h; exact h
    refine ⟨.normal, tm, ds, st, E, R, rfl, hR, h, hS.e0, hS.sr, hS.hp0, hS.size, hS.defers, ⟨fun t => ?_⟩⟩
    obtain ⟨x, h1, h2⟩ := hS.real t
    refine ⟨x, ?_, h2⟩
    rw [hS.tmE]
    have : cur ops.toList tm0 V (Nat.testBit dn) t = cur ops.toList tm0 V (fun j => listed.getD j false) t := cur_congr fun j hj => by
      obtain ⟨o, ho, _⟩ := wr_some hj
      have hlt := (List.getElem?_eq_some_iff.1 ho).1
      have hL := hall j (by simpa using hlt)
      exact ⟨by rw [hS.sub j hL]; exact hL.symm, fun _ => rfl⟩
    rw [this]; exact h1
  induction fuel with
  | zero =>
    intro listed a w n dn V lo hi tm st E lds R hsz ⟨unl, hun, hmem⟩ hS hR h
    have hnil : Region.ready .any ops listed = [] := by
      apply List.eq_nil_iff_forall_not_mem.2
      intro i hi
      obtain ⟨o, ho, hL, _⟩ := (mem_ready hsz).1 hi
      have hlt := (List.getElem?_eq_some_iff.1 ho).1
      have := hmem i (by simpa using hlt) hL
      rw [List.eq_nil_of_length_eq_zero hun] at this
      cases this
    exact ⟨hnil, fin listed a w n dn V lo hi tm st E lds R hsz hS hR h hnil⟩
  | succ fuel ih =>
    intro listed a w n dn V lo hi tm st E lds R hsz ⟨unl, hun, hmem⟩ hS hR h
    refine ⟨fun hnil => fin listed a w n dn V lo hi tm st E lds R hsz hS hR h hnil, fun i hi' => ?_⟩
    obtain ⟨o, ho, hLi, hedges⟩ := (mem_ready hsz).1 hi'
    have hlt := (List.getElem?_eq_some_iff.1 ho).1
    have hiops : ops[i]? = some o := by simpa using ho
    have hil : i < listed.size := by rw [hsz]; simpa using hlt
    have hL' := fun j => set_L hil j
    have hun' : ∃ unl : List Nat, unl.length = fuel ∧ ∀ j, j < ops.size → (listed.setIfInBounds i true).getD j false = false → j ∈ unl := by
      refine ⟨unl.erase i, ?_, fun j hj hLj => ?_⟩
      · rw [List.length_erase_of_mem (hmem i (by simpa using hlt) hLi), hun]; rfl
      · rw [hL', Bool.or_eq_false_iff, decide_eq_false_iff_not] at hLj
        exact (List.mem_erase_of_ne (fun e => hLj.2 e.symm)).2 (hmem j hj hLj.1)
    have hsz' : (listed.setIfInBounds i true).size = ops.size := by simp [hsz]
    have hdo : dstLt N o = true := List.all_eq_true.1 hdl o (List.mem_of_getElem? ho)
    obtain ⟨n', dn', V', lo', hi2, tm', st', E', lds', hS2, h2, hend⟩ := advance hc hp n dn V lo hi tm st E lds hS h
    have hbefL : ∀ j, bef befs i j = true → listed.getD j false = true := closed_edges hp hS2.clL i o ho hedges
    have hb : ∀ j, bef befs i j = true → Nat.testBit dn' j = true := fun j hj => hS2.sub j (hbefL j hj)
    have hname : ∀ (tmi : Tm), (∀ m ∈ namesOf ops.toList o, slot tmi (pth m) = cur ops.toList tm0 V' (bef befs i) m) → ∀ m ∈ namesOf ops.toList o, (slot tmi (pth m)).den E' = some (a.tmps.getD m undef) := fun tmi htm m hm => by
      rw [htm m hm]; exact hS2.names hp ho hLi hbefL hm
    unfold wpOpIn
    simp only [hiops]
    rw [wanted_eq]
    cases hdi : Nat.testBit dn' i with
    | true =>
      obtain ⟨tmi, t, Eg, p1, p2, p3, p4⟩ := (hS2.pend i o ho hdi hLi).ex
      have hwant := p3 E' (fun d => a.tmps.getD d undef) p2 fun d hd => hname tmi p1 d (names_grd hd)
      rcases p4 with ⟨ht, hV⟩ | ⟨ht, b, E1, E2, st2, q1, q2, q3, q4, q5, q6, q7, q8⟩
      · rw [hwant, ht]
        simp only [Bool.false_eq_true, if_false]
        refine ⟨about_FW _ _ _ _, ?_⟩
        refine ih _ _ _ n' dn' V' lo' hi2 tm' st' E' lds' R hsz' hun' ?_ hR h2
        exact hS2.come hp ho hdi hLi hdo hedges (.refl E') hS2.sr (by rw [hV]; rfl) (fun _ _ h => h) hL'
      · rw [hwant, ht]
        simp only [if_true]
        have hrd : Rd E' tmi a.eval o.op.operands.toList := Rd.act fun m hm => hname tmi p1 m (names_tmp hm)
        obtain ⟨E3, y, w3, g1, g2, g3, g4, g5, g6⟩ := q6 E' st' w a.eval q2 (by rw [q3, q4]; exact q5) hS2.sr hrd q7
        refine OpRes.wpIn (G := fun v' w' => v' = y ∧ w' = w3) (op_notDefer q1) (by rw [g3]; exact ⟨rfl, rfl⟩) fun v' w' hvw => ?_
        obtain ⟨rfl, rfl⟩ := hvw
        refine ih _ _ _ n' dn' V' lo' hi2 tm' st' E3 lds' R hsz' hun' ?_ hR (by rw [g2]; exact h2)
        exact hS2.come hp ho hdi hLi hdo hedges g1 g4 g5 (fun j hj hn => g6 j (by rw [q3, q4]; exact hj) hn) hL'
    | false =>
      have hne : dn' ≠ Nat.sub (Nat.pow 2 ops.toList.length) 1 := by
        intro e
        rw [e] at hdi
        have : Nat.testBit (2 ^ ops.toList.length - 1) i = false := hdi
        rw [Nat.testBit_two_pow_sub_one] at this
        simp at this hlt; omega
      obtain ⟨m, hm, hnone⟩ : ∃ m, n' = m + 1 ∧ pickM dn' (zops X ops befs) 0 = none := hend.resolve_left hne
      subst hm
      rw [mkSch_succ, beq_iff, decide_eq_false hne, bif_false, hnone] at h2
      obtain ⟨b, hz, hbef⟩ := zops_of (X := X) hp ho
      have hready : readyN dn' (0 + i) b = true := by
        rw [Nat.zero_add]
        exact readyN_iff.2 ⟨hdi, fun j hj => hb j (by rw [hbef]; exact hj)⟩
      have heff := pickM_none hnone i _ b hz hready
      have hmemE := pickE_mem hz hready heff
      rw [Nat.zero_add] at hmemE
      have h3 := altS_all h2 hmemE
      simp only [] at h3
      rw [schK_eff] at h3
      have hgrd : (cOper X.cx.und X.cx.size X.cx.zero ops.toList o).g = grdP ops.toList o.guard := rfl
      have hdst : (cOper X.cx.und X.cx.size X.cx.zero ops.toList o).dst = dstP o.dst := rfl
      rw [hgrd, hdst] at h3
      have hO := hS2.oks
      have hok : grdOK ops.toList o.guard = true := by
        cases hg : grdOK ops.toList o.guard with
        | true => rfl
        | false =>
          rw [grd_of hg] at h3
          exact absurd (cOper_inv h3).1 (by rw [hg]; simp)
      obtain ⟨f, t, hf, hw, h4⟩ := guardK_inv hok h3 hS2.sr.facts hO
      have htm := fun m hm => hS2.tmNames hp ho hdi hb (t := m) hm
      have hwant := hw E' (fun d => a.tmps.getD d undef) (.refl E') fun d hd => hname tm' htm d (names_grd hd)
      have hS' := hS2.sr.withF hf
      rcases h4 with ⟨ht, h4⟩ | ⟨ht, h4⟩
      · rw [hwant, ht]
        simp only [if_true]
        obtain ⟨_, bo, hbo, hbe⟩ := cOper_inv h4
        rw [hbe] at h4 heff
        have hout := op_eff hc hr hS' hO hbo heff h4
        have hrd : Rd E' tm' a.eval o.op.operands.toList := Rd.act fun m hm => hname tm' htm m (names_tmp hm)
        refine OpRes.wpIn (op_notDefer hbo) (hout a.eval hrd) fun y w' ho' => ?_
        obtain ⟨v, st2, E2, R2, g1, g2, g3, g4, g5, g6⟩ := ho'
        simp only [] at g2
        obtain ⟨hlds, g2⟩ := vif_inv g2
        rw [putDK_dst] at g2
        refine ih _ _ _ m _ (upd V' i v) lo' hi2 _ st2 E2 lds' R2 hsz' hun' ?_ (hR.trans g1) g2
        refine hS2.act hp ho hdi hb hdo hedges g3 g4 ((hp_withF E' st' f).trans g5) g6 (fun l hl hbl _ => ldsOK_spec hlds l hl (by rw [← hbef]; exact hbl)) hL'
      · rw [hwant, ht]
        simp only [Bool.false_eq_true, if_false]
        refine ⟨about_FW _ _ _ _, ?_⟩
        rw [putDK_dst] at h4
        refine ih _ _ _ m _ (upd V' i (.tuple [])) lo' hi2 _ _ E' lds' R hsz' hun' ?_ hR h4
        refine hS2.act hp ho hdi hb hdo hedges (.refl E') hS' (hp_withF E' st' f) den_undef (fun l hl hbl hv => loadVar_keep (fun j b hj => by rw [withF_heap]; exact hj) hv) hL'
theorem draw_ok (hc : CxOK X K w0) (hr : RecOK X K w0 Θ rec) {id : Nat} {r : Option Nat} {kk : Res → VC} (hdl : ops.toList.all (dstLt N) = true) (hS : StRel X K w0 E st w) (hT : TmRel E tm ds a N)
    (h : (schK X.cx rec (schOf X.cx.und X.cx.size X.cx.zero ops.toList) tm st [] fun tm st => kk (.code .normal tm ds st)).holds Θ E.va R) : (Code.region id ops true).wpIn (FW r) 0 X.P (CodeOut X K w0 Θ R E st N kk) a w := by
  unfold schOf at h
  cases hb : befsOf ops.toList [] with
  | none => rw [hb] at h; exact h.elim
  | some befs =>
    rw [hb] at h
    simp only at h
    cases hq : allSlots befs ops.toList ops.toList 0 && onceD ops.toList with
    | false => rw [hq] at h; exact h.elim
    | true =>
      rw [hq, bif_true, lenL_eq] at h
      have hp := plan_ok hb hq
      refine wpIn_region_any X.mixed ?_
      have hbits : ∀ j, Nat.testBit 0 j = false := fun j => Nat.zero_testBit j
      refine any_ok hc hr hp hdl (tm0 := tm) ops.size _ a _ ops.toList.length 0 (fun _ => .tuple []) (fun _ => 0) (fun _ => 0) tm st E [] R (by simp) ⟨List.range ops.size, by simp, fun j hj _ => by simpa using hj⟩ ?_ List.prefix_rfl h
      have hL0 : ∀ j, (Array.replicate ops.size false).getD j false = false := by
        intro j
        simp only [Array.getD_eq_getD_getElem?, Array.getElem?_replicate]
        split <;> rfl
      refine ⟨hS.drawn _, hT.size, hT.defers, fun t => let ⟨x, h1, _⟩ := hT.rel.slots t; ⟨x, h1⟩, fun t => ?_, fun t => ?_, fun j hj => ?_, fun j hj => ?_, fun i o _ hL => ?_, fun i j hi => ?_, fun j hj => ?_, fun j o _ hj => ?_, fun i j _ hi => ?_, fun i hi => ?_, .refl E, .refl E st⟩
      · unfold cur; cases wr ops.toList t <;> simp
      · obtain ⟨x, h1, h2⟩ := hT.rel.slots t
        refine ⟨x, ?_, h2⟩
        unfold cur
        cases wr ops.toList t with
        | none => exact h1
        | some j => simp only [hL0]; exact h1
      · rw [hL0] at hj; cases hj
      · rw [hbits] at hj; cases hj
      · rw [hL0] at hL; cases hL
      · rw [hbits] at hi; cases hi
      · rw [hbits] at hj; cases hj
      · rw [hbits] at hj; cases hj
      · rw [hbits] at hi; cases hi
      · rw [hbits] at hi; cases hi
end
end Go.Sy
/-! Statements. -/
namespace Go.Sy
structure FnsOK (X : Tabs) (K : Nat → Prop) (w0 : World) (Θ : Pred) : Prop where
  fns : ∀ f fi, X.cx.fns.get f = some fi → ∃ fn c, X.P.funcs[f]? = some fn ∧ fn.body = some c ∧ cRess X.cx.und X.cx.size fn.results.toList = some fi.results ∧ CRel X f fi.body c ∧ (fn.name == "runtime.NumGoroutine") = false ∧ okCode fn.ntmps c = true
  con : ∀ f c, X.cx.con.get f = some c → ∀ {args : List AV} {st : St} {k : Kt} {E : Env} {R : List Back} {w : World} {xs : List Value}, StRel X K w0 E st w → denL E args = some xs → (c args st k).holds Θ E.va R → OpRes X.P (Out X K w0 Θ R E st k) ((callFunc f xs.toArray).run X.P w)

section
variable {X : Tabs} {K : Nat → Prop} {w0 : World} {E : Env} {st : St} {w : World} {Θ : Pred} {R : List Back} {tm : Tm} {rec : Rec} {N : Nat} {ds : List Nat} {a : Act} {k k' : Res → VC} {rd r : Option Nat} {fid : FuncId}

theorem CodeOut.now {ex : Ex} (hS : StRel X K w0 E st w) (hT : TmRel E tm ds a N) (h : (k (.code ex tm ds st)).holds Θ E.va R) : CodeOut X K w0 Θ R E st N k (toExit ex) a w :=
  ⟨ex, tm, ds, st, E, R, rfl, List.prefix_rfl, h, .refl E, hS, .refl E st, hT⟩
theorem CodeOut.trans {E1 : Env} {st1 : St} {R1 : List Back} {e : Exit} {a' : Act} {w' : World} (h : CodeOut X K w0 Θ R1 E1 st1 N k e a' w') (hR : R <+: R1) (hE : E.Le E1) (hH : HP E E1 st st1) : CodeOut X K w0 Θ R E st N k e a' w' := by
  obtain ⟨ex, tm, ds, st', E', R', h1, h2, h3, h4, h5, h6, h7⟩ := h
  exact ⟨ex, tm, ds, st', E', R', h1, hR.trans h2, h3, hE.trans h4, h5, hH.trans h6, h7⟩

/-! ### Scopes -/
theorem stepR_scope {P : Program} {b : Frame} {kk : List Item} {cs : List Frame} {c : Code} : step P (lone (b.atR a (.code (.scope c) :: kk)) cs w) = .next (lone (b.atR a (.code c :: .inScope c :: kk)) cs w) :=
  step_lone_go (by simp [stepG, stepG.exec, Frame.atR])
theorem stepR_inScope {P : Program} {b : Frame} {kk : List Item} {cs : List Frame} {c : Code} : step P (lone (b.atR a (.inScope c :: kk)) cs w) = .next (lone (b.atR a kk) cs w) :=
  step_lone_go (by simp [stepG, stepG.exec, Frame.atR])
def InScope (F : Fence) (P : Program) (c x : Code) (Q : Exit → Act → World → Prop) (a : Act) (w : World) : Prop :=
  ∀ (b : Frame) (kk : List Item) (cs : List Frame), b.roundOf = F.round → F.fn b.fn → F.room (cs.length + 1 + 0) →
    ∃ e a' w', Q e a' w' ∧ ArrivesIn (Machine.fenced P F) P (lone (b.atR a (.code x :: .inScope c :: kk)) cs w) b kk cs e a' w'
def scopePost (F : Fence) (P : Program) (c : Code) (Q : Exit → Act → World → Prop) : Exit → Act → World → Prop
  | .goto l, a, w => match findLabel c l with
    | some rest => InScope F P c rest Q a w
    | none => Q (.goto l) a w
  | e, a, w => Q e a w
theorem inScope_of_wp {F : Fence} {P : Program} {c x : Code} {Q : Exit → Act → World → Prop} (h : x.wpIn F 0 P (scopePost F P c Q) a w) : InScope F P c x Q a w := by
  intro b kk cs hro hb hr
  obtain ⟨e, a₁, w₁, hq, harr⟩ := h b (.inScope c :: kk) cs hro hb hr
  cases e with
  | normal => exact ⟨.normal, a₁, w₁, hq, StepsIn.trans harr (.one (fenced_calm hb hr rfl) stepR_inScope)⟩
  | exit id =>
    have hx : exitTo id (.inScope c :: kk) = exitTo id kk := by simp [exitTo]
    exact ⟨.exit id, a₁, w₁, hq, fun k' hk => harr.1 k' (by rw [hx]; exact hk), fun hr' hk => harr.2 hr' (by rw [hx]; exact hk)⟩
  | goto l =>
    unfold scopePost at hq
    cases hf : findLabel c l with
    | some rest =>
      simp only [hf] at hq
      obtain ⟨e₂, a₂, w₂, hq₂, harr₂⟩ := hq b kk cs hro hb hr
      exact ⟨e₂, a₂, w₂, hq₂, .of_steps (harr.1 _ (by simp [gotoIn, hf])) harr₂⟩
    | none =>
      simp only [hf] at hq
      have hx : gotoIn l (.inScope c :: kk) = gotoIn l kk := by simp [gotoIn, hf]
      exact ⟨.goto l, a₁, w₁, hq, fun k' hk => harr.1 k' (by rw [hx]; exact hk), fun hr' hk => harr.2 hr' (by rw [hx]; exact hk)⟩
  | ret => exact ⟨_, a₁, w₁, hq, harr⟩
  | panic ch => exact ⟨_, a₁, w₁, hq, harr⟩
  | outgrown => exact ⟨_, a₁, w₁, hq, harr⟩
theorem wpIn_scope {F : Fence} {P : Program} {c : Code} {Q : Exit → Act → World → Prop} (h : InScope F P c c Q a w) : (Code.scope c).wpIn F 0 P Q a w :=
  fun b kk cs hro hb hr => let ⟨e, a', w', q, r⟩ := h b kk cs hro hb hr; ⟨e, a', w', q, .of_steps (.one (fenced_calm hb hr rfl) stepR_scope) r⟩
theorem findLab_rel (l : Nat) : ∀ (cd : Code), (∀ rest, findLabel cd l = some rest → findLab l (cCode X.cx.und X.cx.size X.cx.zero fid cd) = some (cCode X.cx.und X.cx.size X.cx.zero fid rest) ∧ ∀ N, okCode N cd = true → okCode N rest = true) ∧ (findLabel cd l = none → findLab l (cCode X.cx.und X.cx.size X.cx.zero fid cd) = none) := by
  intro cd
  induction cd with
  | seq a b iha ihb =>
    have e : findLab l (cCode X.cx.und X.cx.size X.cx.zero fid (.seq a b)) = Option.rec (findLab l (cCode X.cx.und X.cx.size X.cx.zero fid b)) (fun r => some (.seq r (cCode X.cx.und X.cx.size X.cx.zero fid b))) (findLab l (cCode X.cx.und X.cx.size X.cx.zero fid a)) := rfl
    rw [e]
    cases ha : findLabel a l with
    | some ra =>
      obtain ⟨h1, h2⟩ := iha.1 ra ha
      refine ⟨fun rest hr => ?_, fun hr => ?_⟩
      · simp [findLabel, ha] at hr
        subst hr
        rw [h1]
        refine ⟨rfl, fun N hN => ?_⟩
        simp only [okCode, Bool.and_eq_true] at hN ⊢
        exact ⟨h2 N hN.1, hN.2⟩
      · simp [findLabel, ha] at hr
    | none =>
      have h0 := iha.2 ha
      rw [h0]
      refine ⟨fun rest hr => ?_, fun hr => ?_⟩
      · simp [findLabel, ha] at hr
        obtain ⟨h1, h2⟩ := ihb.1 rest hr
        refine ⟨h1, fun N hN => ?_⟩
        simp only [okCode, Bool.and_eq_true] at hN
        exact h2 N hN.2
      · simp [findLabel, ha] at hr
        exact ihb.2 hr
  | label m =>
    have e : findLab l (cCode X.cx.und X.cx.size X.cx.zero fid (.label m)) = bif_ (Nat.beq m l) (some .skip) none := rfl
    rw [e, beq_iff]
    by_cases c : m = l
    · rw [decide_eq_true c]
      refine ⟨fun rest hr => ?_, fun hr => ?_⟩
      · simp [findLabel, c] at hr
        subst hr
        exact ⟨rfl, fun _ _ => rfl⟩
      · simp [findLabel, c] at hr
    · rw [decide_eq_false c]
      refine ⟨fun rest hr => ?_, fun hr => rfl⟩
      simp [findLabel, c] at hr
  | cond c x y _ _ =>
    refine ⟨fun rest hr => (by simp [findLabel] at hr), fun _ => ?_⟩
    change findLab l (Option.rec .bad (fun c => .cond c _ _) (cO c)) = none
    cases cO c <;> rfl
  | region id ops d =>
    refine ⟨fun rest hr => (by simp [findLabel] at hr), fun _ => ?_⟩
    cases d <;> rfl
  | rangeFunc f ps x y _ _ =>
    refine ⟨fun rest hr => (by simp [findLabel] at hr), fun _ => ?_⟩
    change findLab l (Option.rec .bad (fun f => .rngf fid f _ _ _) (cO f)) = none
    cases cO f <;> rfl
  | _ => exact ⟨fun rest hr => (by simp [findLabel] at hr), fun _ => rfl⟩
theorem scope_ok (hr : RecOK X K w0 Θ rec) {cd : Code} (hN : okCode N cd = true) : ∀ (f : Nat) (x : Code) (tm : Tm) (ds : List Nat) (st st0 : St) (E E0 : Env) (R R0 : List Back) (a : Act) (w : World), okCode N x = true → RdRel E rd r → StRel X K w0 E st w → TmRel E tm ds a N → R0 <+: R → E0.Le E → HP E0 E st0 st →
    (rec (.code (cCode X.cx.und X.cx.size X.cx.zero fid x) tm ds rd) st (scopeK rec (cCode X.cx.und X.cx.size X.cx.zero fid cd) rd k f)).holds Θ E.va R → InScope (FW r) X.P cd x (CodeOut X K w0 Θ R0 E0 st0 N k) a w := by
  intro f
  induction f with
  | zero =>
    intro x tm ds st st0 E E0 R R0 a w hx hrd hS hT hR hE hH h
    refine inScope_of_wp (wpIn_mono (hr.code (f := fid) rfl hx hrd hS hT h) fun e a' w' hq => ?_)
    obtain ⟨ex, tm', ds', st', E', R', _, _, hk, _⟩ := hq
    exact hk.elim
  | succ f ih =>
    intro x tm ds st st0 E E0 R R0 a w hx hrd hS hT hR hE hH h
    refine inScope_of_wp (wpIn_mono (hr.code (f := fid) rfl hx hrd hS hT h) fun e a' w' hq => ?_)
    obtain ⟨ex, tm', ds', st', E', R', rfl, g1, hk, g2, g3, g4, g5⟩ := hq
    cases ex with
    | goto l =>
      have hk : (Option.rec (k (.code (.goto l) tm' ds' st')) (fun c => rec (.code c tm' ds' rd) st' (scopeK rec (cCode X.cx.und X.cx.size X.cx.zero fid cd) rd k f)) (findLab l (cCode X.cx.und X.cx.size X.cx.zero fid cd)) : VC).holds Θ E'.va R' := hk
      show scopePost (FW r) X.P cd _ (.goto l) a' w'
      unfold scopePost
      cases hf : findLabel cd l with
      | some rest =>
        obtain ⟨h1, h2⟩ := (findLab_rel (X := X) (fid := fid) l cd).1 rest hf
        rw [h1] at hk
        simp only [hf]
        exact ih rest tm' ds' st' st0 E' E0 R' R0 a' w' (h2 N hN) (hrd.mono g2) g3 g5 (hR.trans g1) (hE.trans g2) (hH.trans g4) hk
      | none =>
        rw [(findLab_rel (X := X) (fid := fid) l cd).2 hf] at hk
        simp only [hf]
        exact ⟨.goto l, tm', ds', st', E', R', rfl, hR.trans g1, hk, hE.trans g2, g3, hH.trans g4, g5⟩
    | normal => exact ⟨.normal, tm', ds', st', E', R', rfl, hR.trans g1, hk, hE.trans g2, g3, hH.trans g4, g5⟩
    | exit i => exact ⟨.exit i, tm', ds', st', E', R', rfl, hR.trans g1, hk, hE.trans g2, g3, hH.trans g4, g5⟩
    | ret => exact ⟨.ret, tm', ds', st', E', R', rfl, hR.trans g1, hk, hE.trans g2, g3, hH.trans g4, g5⟩
end
end Go.Sy
/-! Statements, loops over functions, calls. -/
namespace Go.Sy
section
variable {X : Tabs} {K : Nat → Prop} {w0 : World} {E : Env} {st : St} {w : World} {Θ : Pred} {R : List Back} {tm : Tm} {rec : Rec} {N : Nat} {ds : List Nat} {a : Act} {k : Res → VC} {rd r : Option Nat} {fid : FuncId}

/-! ### A round -/
theorem parK_inv : ∀ {ps : List Px} {vs : List AV} {tm : Tm} {F : Tm → VC}, (parK ps vs tm F).holds Θ E.va R → ∀ {ts : List Nat} {xs : List Value} {tmps : Array Value}, ps = ts.map pth → denL E vs = some xs → SlotRel E tm tmps → (∀ t ∈ ts, t < tmps.size) →
    ∃ tm', (F tm').holds Θ E.va R ∧ xs.length = ts.length ∧ SlotRel E tm' ((ts.zip xs).foldl (fun tmps (p : Nat × Value) => tmps.setIfInBounds p.1 p.2) tmps) ∧ ((ts.zip xs).foldl (fun tmps (p : Nat × Value) => tmps.setIfInBounds p.1 p.2) tmps).size = tmps.size
  | [], [], tm, F, h, ts, xs, tmps, hts, hx, hS, _ => by
    have : ts = [] := by cases ts <;> first | rfl | cases hts
    subst this
    rw [denL_nil.1 hx]
    exact ⟨tm, h, rfl, hS, rfl⟩
  | [], _ :: _, tm, F, h, _, _, _, _, _, _, _ => h.elim
  | p :: ps, [], tm, F, h, _, _, _, _, _, _, _ => h.elim
  | p :: ps, v :: vs, tm, F, h, ts, xs, tmps, hts, hx, hS, hlt => by
    obtain ⟨x, xs', hx1, hx2, rfl⟩ := denL_cons.1 hx
    cases ts with
    | nil => cases hts
    | cons t ts =>
      simp only [List.map_cons, List.cons.injEq] at hts
      obtain ⟨rfl, rfl⟩ := hts
      have h : (forceV v fun v => Tr.setP (pth t) tm (some v) fun tm => parK (ts.map pth) vs tm F).holds Θ E.va R := h
      rw [forceV_eq, Tr.setP_eq] at h
      have ht := hlt t (by simp)
      obtain ⟨tm', g1, g2, g3, g4⟩ := parK_inv h rfl hx2 (hS.put ht hx1) (fun t' ht' => by simpa using hlt t' (List.mem_cons_of_mem _ ht'))
      exact ⟨tm', g1, by simp [g2], g3, by simpa using g4⟩
theorem loop_obj {l id : Nat} {s : LSt} {p : Option BC} {f : FuncId} {tm : Tm} {ps : List Px} {x b : BC} {d : Nat} (hS : StRel X K w0 E st w) (h : st.x.objs.get l = some (.loop s p f tm ps x b d)) (hm : E.m[l]? = some (some (id, 0))) :
    ∃ L, w.heap[id]? = some (.loop L) ∧ ObRel X E (.loop s p f tm ps x b d) (.loop L) := by
  obtain ⟨ob, h1, h2⟩ := obj_at hS h hm
  cases ob <;> simp only [ObRel] at h2
  exact ⟨_, h1, h2⟩
theorem exJump_rel (e : Ex) : match toExit e with
    | .normal => exJump e = none
    | .ret => ∃ c, exJump e = some c ∧ jumpRel (some c) (some .ret)
    | .exit i => ∃ c, exJump e = some c ∧ jumpRel (some c) (some (.exit i))
    | .goto i => ∃ c, exJump e = some c ∧ jumpRel (some c) (some (.goto i))
    | _ => False := by
  cases e with
  | normal => rfl
  | ret => exact ⟨_, rfl, .inl ⟨rfl, rfl⟩⟩
  | exit i => exact ⟨_, rfl, .inr (.inl ⟨i, rfl, rfl⟩)⟩
  | goto i => exact ⟨_, rfl, .inr (.inr ⟨i, rfl, rfl⟩)⟩
theorem round_ok (hr : RecOK X K w0 Θ rec) {l id : Nat} {args : List AV} {xs : List Value} (hS : StRel X K w0 E st w) (hm : E.m[l]? = some (some (id, 0))) (hx : denL E args = some xs) (h : (stRound rec l args st k (st.x.objs.get l)).holds Θ E.va R) :
    OpRes X.P (OutV X K w0 Θ R E st k) ((Instr.yield id xs.toArray).run X.P w) := by
  cases ho : st.x.objs.get l with
  | none => rw [ho] at h; exact h.elim
  | some ob =>
    rw [ho] at h
    unfold stRound at h
    split at h
    · rename_i s p f tm ps x b d e
      cases e
      obtain ⟨L, hh, hrel⟩ := loop_obj hS ho hm
      obtain ⟨h1, h2, h3, h4, h5, h6, h7, h8, h9, h10⟩ := hrel
      obtain ⟨tm', g1, g2, g3, g4⟩ := parK_inv h h4 hx h3 h9
      have hsz : xs.toArray.size = L.params.size := by simpa using g2
      rw [run_yield hh hsz]
      have hfold : (L.params.zip xs.toArray).foldl (fun tmps (x : Tmp × Value) => tmps.setIfInBounds x.1 x.2) L.tmps = (L.params.toList.zip xs).foldl (fun tmps (p : Nat × Value) => tmps.setIfInBounds p.1 p.2) L.tmps := by
        rw [← Array.foldl_toList, Array.toList_zip]
      show RoundIn (FW none) 0 X.P id L.fn _ L.assign L.body w _
      rw [hfold]
      refine roundIn_of_wpIn (FW_fn _ _) ?_
      rw [FW_in]
      have hT : TmRel E tm' [] { tmps := (L.params.toList.zip xs).foldl (fun tmps (p : Nat × Value) => tmps.setIfInBounds p.1 p.2) L.tmps, defers := [] } L.tmps.size := ⟨g4, trivial, g3⟩
      refine wpIn_mono (hr.code (r := some id) (rd := some l) h5 h7 hm hS hT g1) fun e a' w' hq => ?_
      obtain ⟨ex, tm2, ds2, st2, E2, R2, rfl, q1, q2, q3, q4, q5, q6⟩ := hq
      unfold beginRound at q2
      split at q2
      · rename_i tm3 st3 er
        cases er
        split at q2
        · rename_i p' f' t' ps' a2 b' d' ho2
          rw [withO_eq] at q2
          have hm2 := q3.m _ _ hm
          obtain ⟨L2, hh2, hrel2⟩ := loop_obj q4 ho2 hm2
          have hob2 := hrel2
          obtain ⟨k1, k2, k3⟩ := hrel2
          have hready : L2.state = .ready := k1
          have hbusy : ObRel X E2 (.loop .busy p' f' t' ps' a2 b' d') (.loop { L2 with state := .busy }) := ⟨rfl, k2, k3⟩
          obtain ⟨s1, s2⟩ := q4.putObj ho2 hm2 hh2 hob2 hbusy
          refine ⟨_, run_beginRound hh2 hready, ?_⟩
          refine wpIn_mono (hr.code (r := some id) (rd := some l) h6 h8 hm2 s1 q6 q2) fun e a'' w'' hq' => ?_
          obtain ⟨ex2, tm4, ds4, st4, E4, R4, rfl, p1, p2, p3, p4, p5, p6⟩ := hq'
          unfold endRound at p2
          split at p2
          · rename_i e5 tm5 ds5 st5 er5
            cases er5
            split at p2
            · rename_i s6 p6' f6 t6 ps6 a6 b6 d6 ho6
              have hm6 := p3.m _ _ hm2
              obtain ⟨L6, hh6, hrel6⟩ := loop_obj p4 ho6 hm6
              have hob6 := hrel6
              obtain ⟨_, _, k6⟩ := hrel6
              have fin : ∀ (jump : Option Code) (bj : Option BC) (s : LSt) (bv : Bool), jumpRel bj jump → lstOf s = (if jump.isNone then .ready else .done) → jump.isNone = bv → (k (.val (.bool bv) (st4.setO l (.loop s bj f6 t6 ps6 a6 b6 d6)))).holds Θ E4.va R4 →
                  ∃ v w', (Instr.endRound id jump).run X.P w'' = .ok v w' ∧ retOnly (OutV X K w0 Θ R E st k) (.returned v) w' := by
                intro jump bj s bv hj hs hb hk
                have hnew : ObRel X E4 (.loop s bj f6 t6 ps6 a6 b6 d6) (.loop { L6 with state := if jump.isNone then .ready else .done, pending := jump }) := ⟨hs.symm, hj, k6⟩
                obtain ⟨u1, u2⟩ := p4.putObj ho6 hm6 hh6 hob6 hnew
                refine ⟨_, _, run_endRound jump hh6, _, _, E4, R4, q1.trans p1, hk, q3.trans p3, u1, (q5.trans s2).trans (p5.trans u2), by rw [hb]; rfl⟩
              have hj := exJump_rel ex2
              cases ex2 with
              | normal =>
                have p2 : (withO st4 l (.loop .ready none f6 t6 ps6 a6 b6 d6) fun st => k (.val (.bool true) st)).holds Θ E4.va R4 := p2
                rw [withO_eq] at p2
                exact fin none none .ready true trivial rfl rfl p2
              | ret =>
                have p2 : (withO st4 l (.loop .done (some .ret) f6 t6 ps6 a6 b6 d6) fun st => k (.val (.bool false) st)).holds Θ E4.va R4 := p2
                rw [withO_eq] at p2
                exact fin (some .ret) (some .ret) .done false (.inl ⟨rfl, rfl⟩) rfl rfl p2
              | exit i =>
                have p2 : (withO st4 l (.loop .done (some (.exit i)) f6 t6 ps6 a6 b6 d6) fun st => k (.val (.bool false) st)).holds Θ E4.va R4 := p2
                rw [withO_eq] at p2
                exact fin (some (.exit i)) (some (.exit i)) .done false (.inr (.inl ⟨i, rfl, rfl⟩)) rfl rfl p2
              | goto i =>
                have p2 : (withO st4 l (.loop .done (some (.goto i)) f6 t6 ps6 a6 b6 d6) fun st => k (.val (.bool false) st)).holds Θ E4.va R4 := p2
                rw [withO_eq] at p2
                exact fin (some (.goto i)) (some (.goto i)) .done false (.inr (.inr ⟨i, rfl, rfl⟩)) rfl rfl p2
            · exact p2.elim
          · rename_i hno; exact absurd rfl (hno _ _ _ _)
        · exact q2.elim
      · exact q2.elim
    · exact h.elim
end
end Go.Sy
/-! Loops over functions; what functions hand back. -/
namespace Go.Sy
section
variable {X : Tabs} {K : Nat → Prop} {w0 : World} {E : Env} {st : St} {w : World} {Θ : Pred} {R : List Back} {tm : Tm} {rec : Rec} {N : Nat} {ds : List Nat} {a : Act} {k : Res → VC} {rd r : Option Nat} {fid : FuncId}

theorem callFunc_enter {P : Program} {f : FuncId} {fn : Func} {args : Array Value} (hfn : P.funcs[f]? = some fn) (hb : fn.body.isSome = true) (hn : (fn.name == "runtime.NumGoroutine") = false) (w : World) : (callFunc f args).run P w = .ok (.enter f args) w := by
  have hn' : fn.name ≠ "runtime.NumGoroutine" := by simpa using hn
  have hb' : ¬ fn.body = none := by intro e; rw [e] at hb; cases hb
  simp [callFunc, program, Sem.run, hfn, hn', hb']
/-- The function that is ranged over has ended. -/
theorem endLoop_ok {l id : Nat} {a' : Act} {w' : World} {st' : St} {E' : Env} {R' : List Back} (hm : E'.m[l]? = some (some (id, 0))) (hS : StRel X K w0 E' st' w') (hT : TmRel E' tm ds a' N) (hR : R <+: R') (hE : E.Le E') (hH : HP E E' st st')
    (h : (endLoop l tm ds st' k (st'.x.objs.get l)).holds Θ E'.va R') :
    ∃ jump w4, (Instr.endLoop id).run X.P w' = .ok jump w4 ∧ (match jump with
      | none => CodeOut X K w0 Θ R E st N k .normal a' w4
      | some c => c.wpIn (FW r) 0 X.P (CodeOut X K w0 Θ R E st N k) a' w4) := by
  cases ho : st'.x.objs.get l with
  | none => rw [ho] at h; exact h.elim
  | some ob =>
    rw [ho] at h
    unfold endLoop at h
    split at h
    · rename_i s p f t ps x b d e
      cases e
      obtain ⟨L, hh, hrel⟩ := loop_obj hS ho hm
      have hob := hrel
      obtain ⟨h1, h2, h3⟩ := hrel
      split at h
      · exact h.elim
      · rename_i hs
        rw [withO_eq] at h
        have hnb : L.state ≠ .busy := by
          rw [h1]
          cases s <;> simp [lstOf]
          exact hs rfl
        have hnew : ObRel X E' (.loop .over p f t ps x b d) (.loop { L with state := .exhausted }) := ⟨rfl, h2, h3⟩
        obtain ⟨u1, u2⟩ := hS.putObj ho hm hh hob hnew
        obtain ⟨w4, hrun, u1⟩ : ∃ w4, (Instr.endLoop id).run X.P w' = .ok L.pending w4 ∧ StRel X K w0 E' (st'.setO l (.loop .over p f t ps x b d)) w4 := ⟨_, run_endLoop hh hnb, u1⟩
        refine ⟨_, w4, hrun, ?_⟩
        cases p with
        | none =>
          have hp : L.pending = none := by
            cases hp : L.pending with
            | none => rfl
            | some c => rw [hp] at h2; exact h2.elim
          rw [hp]
          exact ⟨.normal, tm, ds, _, E', R', rfl, hR, h, hE, u1, hH.trans u2, hT⟩
        | some c =>
          cases hp : L.pending with
          | none => rw [hp] at h2; exact h2.elim
          | some cd =>
            rw [hp] at h2
            have h : (vbind (jumpEx c) fun e => k (.code e tm ds (st'.setO l (.loop .over (some c) f t ps x b d)))).holds Θ E'.va R' := h
            obtain ⟨e, he, h⟩ := vbind_inv h
            rcases h2 with ⟨rfl, rfl⟩ | ⟨i, rfl, rfl⟩ | ⟨i, rfl, rfl⟩
            · cases he; exact wpIn_ret ⟨.ret, tm, ds, _, E', R', rfl, hR, h, hE, u1, hH.trans u2, hT⟩
            · cases he; exact wpIn_exit ⟨.exit i, tm, ds, _, E', R', rfl, hR, h, hE, u1, hH.trans u2, hT⟩
            · cases he; exact wpIn_goto ⟨.goto i, tm, ds, _, E', R', rfl, hR, h, hE, u1, hH.trans u2, hT⟩
    · exact h.elim
theorem enterLoop_ok (hf : FnsOK X K w0 Θ) (hr : RecOK X K w0 Θ rec) {g : Operand} {ps : Array Tmp} {x y : Code} {bg : BO} (hg : cO g = some bg) (hok : okCode N (.rangeFunc g ps x y) = true) (hB : hasB X.cx (ev tm bg) = true) {d did : Nat} {a' : Act} (hS : StRel X K w0 E st w) (hd : E.m[d]? = some (some (did, 0))) (hT : TmRel E tm ds a' N) (hev : a'.eval g = a.eval g)
    (h : (enterLoop rec fid (ev tm bg) (mapL pth ps.toList) (cCode X.cx.und X.cx.size X.cx.zero fid x) (cCode X.cx.und X.cx.size X.cx.zero fid y) tm d ds st k).holds Θ E.va R) (fn : FuncId) :
    ∃ (dd : Deferred) (w1' : World) (f : FuncId) (args : Array Value) (w2 : World),
      (resolve a.eval (rangeCall g w.heap.size) 0).run X.P (w.alloc (.loop { state := .ready, pending := none, fn := fn, tmps := a'.tmps, params := ps, assign := x, body := y, defers := did })) = .ok dd w1' ∧
      (invoke dd.target dd.args).run X.P w1' = .ok (.enter f args) w2 ∧
      CallsIn (FW r) 0 X.P f args w2 (rangePost (FW r) 0 X.P w.heap.size (CodeOut X K w0 Θ R E st N k) a') := by
  unfold enterLoop at h
  rw [newO_eq] at h
  simp only [okCode, Bool.and_eq_true] at hok
  obtain ⟨hps, hx, hy⟩ := hok
  have hnone : (E.push none).m[st.n]? = some none := by rw [← hS.n_eq]; exact push_new E none
  have hle : E.Le ((E.push none).set st.n (w.heap.size, 0)) := (E.le_push none).trans (Env.le_set hnone)
  have hrel : ObRel X ((E.push none).set st.n (w.heap.size, 0)) (.loop .ready none fid tm (mapL pth ps.toList) (cCode X.cx.und X.cx.size X.cx.zero fid x) (cCode X.cx.und X.cx.size X.cx.zero fid y) d)
      (.loop { state := .ready, pending := none, fn := fn, tmps := a'.tmps, params := ps, assign := x, body := y, defers := did }) := by
    refine ⟨rfl, trivial, hT.rel.mono hle, mapL_eq _ _, rfl, rfl, by rw [hT.size]; exact hx, by rw [hT.size]; exact hy, fun p hp => ?_, hle.m _ _ hd⟩
    rw [hT.size]; simpa using List.all_eq_true.1 hps p hp
  obtain ⟨s1, s2, s3, s4⟩ := hS.newObjAt _ _ hrel
  have hT' := hT.mono s3
  have hv := hT'.rd [g] g (by simp) bg hg
  rw [hev] at hv
  have hyl : denL ((E.push none).set st.n (w.heap.size, 0)) [.yld st.n] = some [.func (.yield w.heap.size) #[] #[]] := denL_cons.2 ⟨_, [], by simp [AV.den, s4], rfl, rfl⟩
  obtain ⟨dd, q1, q2⟩ := xCallv_out hr s1 h hv hyl
  have hres : (resolve a.eval (rangeCall g w.heap.size) 0).run X.P (w.alloc (.loop { state := .ready, pending := none, fn := fn, tmps := a'.tmps, params := ps, assign := x, body := y, defers := did })) = .ok dd (w.alloc (.loop { state := .ready, pending := none, fn := fn, tmps := a'.tmps, params := ps, assign := x, body := y, defers := did })) := by
    have := q1 (w.alloc (.loop { state := .ready, pending := none, fn := fn, tmps := a'.tmps, params := ps, assign := x, body := y, defers := did }))
    simpa [resolve, rangeCall, Act.eval] using this
  have hent : ∃ f args, (invoke dd.target dd.args).run X.P (w.alloc (.loop { state := .ready, pending := none, fn := fn, tmps := a'.tmps, params := ps, assign := x, body := y, defers := did })) = .ok (.enter f args) (w.alloc (.loop { state := .ready, pending := none, fn := fn, tmps := a'.tmps, params := ps, assign := x, body := y, defers := did })) := by
    unfold hasB at hB
    split at hB
    · rename_i f c1 c2 hevb
      rw [hevb] at hv
      obtain ⟨x1, x2, _, _, e⟩ := den_func' hv
      cases hfi : X.cx.fns.get f with
      | none => rw [hfi] at hB; cases hB
      | some fi =>
        obtain ⟨fnn, c, g1, g2, _, _, g5, _⟩ := hf.fns f fi hfi
        rw [e] at q1
        have q1' := q1 w
        simp [Deferred.ofValue] at q1'
        subst q1'
        exact ⟨f, _, callFunc_enter g1 (by rw [g2]; rfl) g5 _⟩
    · cases hB
  obtain ⟨f, args, hent⟩ := hent
  refine ⟨dd, _, f, args, _, hres, hent, ?_⟩
  rw [hent] at q2
  refine FW_calls (CallsIn.mono (show CallsIn (FW none) 0 X.P f args _ _ from q2) fun e w' he => ?_)
  cases e with
  | returned v =>
    obtain ⟨v', st', E', R', p1, p2, p3, p4, p5, p6⟩ := he
    exact endLoop_ok (p3.m _ _ s4) p4 (hT'.mono p3) p1 (s3.trans p3) (s2.trans p5) p2
  | panicked c => exact he.elim
  | outgrown => exact he.elim
theorem rngf_ok (hf : FnsOK X K w0 Θ) (hr : RecOK X K w0 Θ rec) {g : Operand} {ps : Array Tmp} {x y : Code} {bg : BO} (hg : cO g = some bg) (hok : okCode N (.rangeFunc g ps x y) = true) (hB : hasB X.cx (ev tm bg) = true) (hrd : RdRel E rd r) (hS : StRel X K w0 E st w) (hT : TmRel E tm ds a N)
    (h : (rngfK rec fid (ev tm bg) (mapL pth ps.toList) (cCode X.cx.und X.cx.size X.cx.zero fid x) (cCode X.cx.und X.cx.size X.cx.zero fid y) tm ds st k rd).holds Θ E.va R) :
    (Code.rangeFunc g ps x y).wpIn (FW r) 0 X.P (CodeOut X K w0 Θ R E st N k) a w := by
  refine wpIn_rangeFunc fun fn _ => ?_
  rw [FW_round]
  cases rd with
  | none =>
    cases r with
    | some _ => exact hrd.elim
    | none =>
      have h : (newO st (.dfr true) fun d st => enterLoop rec fid (ev tm bg) (mapL pth ps.toList) (cCode X.cx.und X.cx.size X.cx.zero fid x) (cCode X.cx.und X.cx.size X.cx.zero fid y) tm d (d :: ds) st k).holds Θ E.va R := h
      rw [newO_eq] at h
      obtain ⟨s1, s2, s3, s4⟩ := hS.newObjAt (.dfr true) (.deferred (some [])) rfl
      have hT' : TmRel ((E.push none).set st.n (w.heap.size, 0)) tm (st.n :: ds) { a with defers := [{ target := .collected w.heap.size, args := #[] }] ++ a.defers } N := by
        have := hT.mono s3
        exact ⟨this.size, ⟨⟨_, s4, rfl⟩, this.defers⟩, this.rel⟩
      obtain ⟨dd, w1', f, args, w2, q1, q2, q3⟩ := enterLoop_ok (r := none) (a := a) hf hr hg hok hB s1 s4 hT' (by cases g <;> rfl) h fn
      have hsz : (w.alloc (.deferred (some []))).heap.size = w.heap.size + 1 := by simp
      rw [hsz] at q1 q3
      refine ⟨w.heap.size + 1, _, _, dd, w1', f, args, w2, run_enterLoop_outer fn a.tmps ps x y, q1, fun f' _ => FW_fn _ _, q2, fun hd => (by rw [FW_depth] at hd; cases hd), ?_⟩
      refine CallsIn.mono q3 fun e w' he => ?_
      cases e with
      | returned v =>
        obtain ⟨jump, w4, e1, e2⟩ := he
        refine ⟨jump, w4, e1, ?_⟩
        cases jump with
        | none => exact CodeOut.trans e2 List.prefix_rfl s3 s2
        | some c => exact wpIn_mono e2 fun e a w he => CodeOut.trans he List.prefix_rfl s3 s2
      | panicked c =>
        obtain ⟨ex, _, _, _, _, _, e1, _⟩ := he
        cases ex <;> cases e1
      | outgrown =>
        obtain ⟨a0, w0', ex, _, _, _, _, _, e1, _⟩ := he
        cases ex <;> cases e1
  | some l =>
    cases r with
    | none => exact hrd.elim
    | some id =>
      obtain ⟨d, hdf, h⟩ := vbind_inv h
      have hob : ∃ s p f t ps' x' b', st.x.objs.get l = some (.loop s p f t ps' x' b' d) := by
        cases ho : st.x.objs.get l with
        | none => rw [ho] at hdf; cases hdf
        | some ob => rw [ho] at hdf; cases ob <;> cases hdf; exact ⟨_, _, _, _, _, _, _, rfl⟩
      obtain ⟨s, p, f0, t, ps', x', b', hob⟩ := hob
      obtain ⟨L, hh, hrel⟩ := loop_obj hS hob hrd
      have hd := hrel.2.2.2.2.2.2.2.2.2
      obtain ⟨dd, w1', f, args, w2, q1, q2, q3⟩ := enterLoop_ok (r := some id) (a := a) hf hr hg hok hB hS hd hT rfl h fn
      refine ⟨w.heap.size, [], _, dd, w1', f, args, w2, ?_, q1, fun f' _ => FW_fn _ _, q2, fun hd => (by rw [FW_depth] at hd; cases hd), q3⟩
      unfold Instr.enterLoop
      simp [Sem.run_bind, run_getLoop hh, Result.andThen]

/-! ### What a function hands back -/
def resVal (tmps : Array Value) : ResultVar → Sem Value
  | .tmp t => pure (tmps.getD t undef)
  | .cell c t => do Go.loadVar t (← asAddr (tmps.getD c undef))
theorem results_eq (fn : Func) (tmps : Array Value) : results fn tmps = (do let vs ← fn.results.mapM (resVal tmps); pure (if h : vs.size = 1 then vs[0] else .tuple vs)) := by
  unfold results
  congr 1
theorem results_sound (hc : CxOK X K w0) (hS : StRel X K w0 E st w) (hT : SlotRel E tm a.tmps) : ∀ {rs : List ResultVar} {bs : List BR} {vs : List AV}, cRess X.cx.und X.cx.size rs = some bs → resOf X.cx st tm bs = some vs →
    ∃ xs, denL E vs = some xs ∧ (rs.mapM (resVal a.tmps)).run X.P w = .ok xs w
  | [], bs, vs, hb, h => by cases hb; cases h; exact ⟨[], rfl, by simp⟩
  | x :: rs, bs, vs, hb, h => by
    change obind (cRes X.cx.und X.cx.size x) (fun b => obind (cRess X.cx.und X.cx.size rs) fun r => some (b :: r)) = some bs at hb
    obtain ⟨b, hb1, hb⟩ := obind_inv hb
    obtain ⟨bs', hb2, hb⟩ := obind_inv hb
    cases hb
    cases x with
    | tmp t =>
      cases hb1
      obtain ⟨vs', h1, h⟩ := obind_inv h
      cases h
      obtain ⟨xs, h2, h3⟩ := results_sound hc hS hT hb2 h1
      obtain ⟨x, h4, h5⟩ := hT.slots t
      exact ⟨x :: xs, denL_cons.2 ⟨_, _, h4, h2, rfl⟩, by simp only [List.mapM_cons, resVal, Sem.run_bind, Sem.run_pure, Result.andThen_ok, h3, h5]⟩
    | cell c t =>
      obtain ⟨n, hn, hb1⟩ := obind_inv hb1
      cases hb1
      obtain ⟨p, hp, h⟩ := obind_inv h
      obtain ⟨v, hv, h⟩ := obind_inv h
      obtain ⟨vs', h1, h⟩ := obind_inv h
      cases h
      obtain ⟨xs, h2, h3⟩ := results_sound hc hS hT hb2 h1
      obtain ⟨x, h4, h5⟩ := hT.slots c
      rw [asPtr_inv hp] at h4
      obtain ⟨ad, had, hx⟩ := den_ptr h4
      obtain ⟨y, h6, h7⟩ := loadVar_sound hc hS hn hv had
      exact ⟨y :: xs, denL_cons.2 ⟨_, _, h6, h2, rfl⟩, by simp only [List.mapM_cons, resVal, Sem.run_bind, h5, hx, asAddr, Sem.run_pure, Result.andThen_ok, h7, h3]⟩
theorem one_den {vs : List AV} {xs : List Value} (h1 : denL E vs = some xs) : ∃ x, (one vs).den E = some x ∧ x = (if h : xs.toArray.size = 1 then xs.toArray[0] else .tuple xs.toArray) := by
  match vs, xs, h1 with
  | [], xs, h1 => rw [denL_nil.1 h1]; exact ⟨_, rfl, rfl⟩
  | [v], xs, h1 =>
    obtain ⟨p, q, hp, hq, rfl⟩ := denL_cons.1 h1
    rw [denL_nil.1 hq]
    exact ⟨p, hp, rfl⟩
  | v :: u :: r, xs, h1 =>
    refine ⟨.tuple xs.toArray, by simp [one, AV.den, h1], ?_⟩
    have := denL_length h1
    rw [dif_neg]; simp at this ⊢; omega
/-- The marks are taken; what is handed back. -/
theorem leave_ok (hc : CxOK X K w0) {fn : Func} {bs : List BR} (hres : cRess X.cx.und X.cx.size fn.results.toList = some bs) {E0 : Env} {st0 : St} {R0 : List Back} : ∀ {ds : List Nat} {dfs : List Deferred} {st : St} {w : World}, R0 <+: R → E0.Le E → HP E0 E st0 st → StRel X K w0 E st w → DfRel E ds dfs → SlotRel E tm a.tmps →
    (closeD ds st fun st => vbind (resOf X.cx st tm bs) fun vs => k (.val (one vs) st)).holds Θ E.va R →
    LeavesInM (FW none) 0 X.P fn a.tmps (retOnly (OutV X K w0 Θ R0 E0 st0 k)) dfs .returning w
  | [], [], st, w, hR, hE, hH, hS, _, hT, h => by
    have h : (vbind (resOf X.cx st tm bs) fun vs => k (.val (one vs) st)).holds Θ E.va R := h
    obtain ⟨vs, hvs, h⟩ := vbind_inv h
    obtain ⟨xs, h1, h2⟩ := results_sound (a := a) hc hS hT hres hvs
    have hrun : (fn.results.mapM (resVal a.tmps)).run X.P w = .ok xs.toArray w := by
      rw [Array.mapM_eq_mapM_toList]
      simp only [Sem.run_map, h2, Result.andThen_ok]
    obtain ⟨x, hx, hx2⟩ := one_den h1
    refine ⟨x, ?_, one vs, st, E, R, hR, h, hE, hS, hH, hx⟩
    rw [results_eq, Sem.run_bind, hrun]
    simp only [Result.andThen_ok, Sem.run_pure, hx2]
  | d :: ds, df :: dfs, st, w, hR, hE, hH, hS, ⟨⟨id, hm, hdf⟩, hrest⟩, hT, h => by
    change (match st.x.objs.get d with
      | some (.dfr true) => withO st d (.dfr false) fun st => closeD ds st fun st => vbind (resOf X.cx st tm bs) fun vs => k (.val (one vs) st)
      | _ => .bad : VC).holds Θ E.va R at h
    cases ho : st.x.objs.get d with
    | none => rw [ho] at h; exact h.elim
    | some ob =>
      rw [ho] at h
      cases ob <;> try exact h.elim
      rename_i bb
      cases bb with
      | false => exact h.elim
      | true =>
        simp only at h
        rw [withO_eq] at h
        obtain ⟨ob, hh, hrel⟩ := obj_at hS ho hm
        cases ob <;> simp only [ObRel] at hrel
        subst hrel
        obtain ⟨u1, u2⟩ := hS.putObj ho hm hh (o' := .dfr false) (ob' := .deferred none) rfl rfl
        exact ⟨by simp, .inl ⟨id, _, by rw [hdf], run_takeDeferred hh, leave_ok hc hres hR hE (hH.trans u2) u1 hrest hT h⟩⟩
  | [], _ :: _, _, _, _, _, _, _, h, _, _ => h.elim
  | _ :: _, [], _, _, _, _, _, _, h, _, _ => h.elim
end
end Go.Sy
/-! The evaluator's conditions suffice. -/
namespace Go.Sy
section
variable {X : Tabs} {K : Nat → Prop} {w0 : World} {E : Env} {st : St} {w : World} {Θ : Pred} {R : List Back} {tm : Tm} {rec : Rec} {N : Nat} {ds : List Nat} {a : Act} {k : Res → VC} {rd r : Option Nat} {fid : FuncId}

theorem okCode_mono {N M : Nat} (h : N ≤ M) : ∀ (c : Code), okCode N c = true → okCode M c = true
  | .region _ ops _, hc => by
    simp only [okCode, List.all_eq_true] at hc ⊢
    intro o ho
    have := hc o ho
    unfold dstLt at this ⊢
    split at this
    · rfl
    · simp only [decide_eq_true_eq] at this ⊢; exact Nat.lt_of_lt_of_le this h
  | .seq a b, hc => by
    simp only [okCode, Bool.and_eq_true] at hc ⊢
    exact ⟨okCode_mono h a hc.1, okCode_mono h b hc.2⟩
  | .cond _ a b, hc => by
    simp only [okCode, Bool.and_eq_true] at hc ⊢
    exact ⟨okCode_mono h a hc.1, okCode_mono h b hc.2⟩
  | .block _ a, hc => by simp only [okCode] at hc ⊢; exact okCode_mono h a hc
  | .loop a, hc => by simp only [okCode] at hc ⊢; exact okCode_mono h a hc
  | .scope a, hc => by simp only [okCode] at hc ⊢; exact okCode_mono h a hc
  | .rangeFunc _ ps a b, hc => by
    simp only [okCode, Bool.and_eq_true, List.all_eq_true, decide_eq_true_eq] at hc ⊢
    exact ⟨fun p hp => Nat.lt_of_lt_of_le (hc.1 p hp) h, okCode_mono h a hc.2.1, okCode_mono h b hc.2.2⟩
  | .skip, _ | .exit _, _ | .label _, _ | .goto _, _ | .ret, _ | .refuse _, _ => rfl

theorem call_ok (hc : CxOK X K w0) (hf : FnsOK X K w0 Θ) (hr : RecOK X K w0 Θ rec) {f : FuncId} {args : List AV} {xs : List Value} (hS : StRel X K w0 E st w) (hargs : denL E args = some xs) (h : (stCall X.cx rec f args st k).holds Θ E.va R) :
    OpRes X.P (OutV X K w0 Θ R E st k) ((callFunc f xs.toArray).run X.P w) := by
  unfold stCall at h
  cases hcon : X.cx.con.get f with
  | some c =>
    rw [hcon] at h
    have h : (c args st fun v st => k (.val v st)).holds Θ E.va R := h
    exact (hf.con f c hcon hS hargs h).mono fun y w' ho => ho
  | none =>
    rw [hcon] at h
    obtain ⟨fi, hfi, h⟩ := vbind_inv h
    rw [putsK_eq] at h
    obtain ⟨fn, c, hfn, hbody, hres, hrel, hname, hok⟩ := hf.fns f fi hfi
    have hxl := denL_length hargs
    rw [callFunc_enter hfn (by rw [hbody]; rfl) hname]
    have hT : TmRel E (puts args 0 .nil) [] { tmps := xs.toArray ++ Array.replicate (fn.ntmps - xs.toArray.size) undef, defers := [] } (xs.toArray ++ Array.replicate (fn.ntmps - xs.toArray.size) undef).size := by
      refine ⟨rfl, trivial, ⟨fun t => ?_⟩⟩
      have hslot : slot (puts args 0 .nil) (pth t) = ((puts args 0 .nil).get t).getD (.tuple []) := by
        unfold slot Tr.get
        cases Tr.getP (pth t) (puts args 0 .nil) <;> rfl
      rw [hslot, puts_get]
      by_cases c : 0 ≤ t ∧ t < 0 + args.length
      · rw [if_pos c]
        have ht : t < args.length := by omega
        have hv : args[t - 0]? = some args[t] := by simp [ht]
        rw [hv]
        obtain ⟨y, h1, h2⟩ := denL_get hargs (i := t) (v := args[t]) (by simp [ht])
        refine ⟨y, h1, ?_⟩
        have hlt : t < xs.length := by omega
        simp [Array.getD_eq_getD_getElem?, Array.getElem?_append_left, hlt]
        exact (List.getElem?_eq_some_iff.1 h2).2
      · rw [if_neg c]
        refine ⟨undef, by simp; rfl, ?_⟩
        have hge : xs.length ≤ t := by omega
        simp only [Array.getD_eq_getD_getElem?]
        rw [Array.getElem?_append_right (by simpa using hge)]
        simp only [Array.getElem?_replicate]
        split <;> rfl
    have hN : fn.ntmps ≤ (xs.toArray ++ Array.replicate (fn.ntmps - xs.toArray.size) undef).size := by simp; omega
    refine callsIn_of_wp_marks hfn hbody (FW_fn _ _) (wpIn_mono (hr.code (r := none) (rd := none) hrel (okCode_mono hN _ hok) trivial hS hT h) fun e a' w' hq => ?_) rfl
    obtain ⟨ex, tm', ds', st', E', R', rfl, g1, g2, g3, g4, g5, g6⟩ := hq
    cases ex with
    | normal => exact leave_ok hc hres g1 g3 g5 g4 g6.defers g6.rel g2
    | ret => exact leave_ok hc hres g1 g3 g5 g4 g6.defers g6.rel g2
    | exit i => exact g2.elim
    | goto i => exact g2.elim

theorem code_ok (hc : CxOK X K w0) (hf : FnsOK X K w0 Θ) (hr : RecOK X K w0 Θ rec) {c : BC} {cd : Code} (hrel : CRel X fid c cd) (hN : okCode N cd = true) (hrd : RdRel E rd r) (hS : StRel X K w0 E st w) (hT : TmRel E tm ds a N)
    (h : (stCode c X.cx rec tm ds rd st k).holds Θ E.va R) : cd.wpIn (FW r) 0 X.P (CodeOut X K w0 Θ R E st N k) a w := by
  subst hrel
  cases cd with
  | skip => exact wpIn_skip (CodeOut.now (ex := .normal) hS hT h)
  | label l => exact wpIn_label (CodeOut.now (ex := .normal) hS hT h)
  | exit id => exact wpIn_exit (CodeOut.now (ex := .exit id) hS hT h)
  | goto l => exact wpIn_goto (CodeOut.now (ex := .goto l) hS hT h)
  | ret => exact wpIn_ret (CodeOut.now (ex := .ret) hS hT h)
  | refuse s => exact h.elim
  | region id ops dr =>
    cases dr with
    | false => exact wpIn_region_list (ops_ok hc hr ops.toList ops rfl ops.toList tm st st E E R R w a (fun o ho => List.all_eq_true.1 hN o ho) hS hT (.refl E) (.refl E st) List.prefix_rfl h)
    | true => exact draw_ok hc hr hN hS hT h
  | seq x y =>
    simp only [okCode, Bool.and_eq_true] at hN
    have h : (rec (.code (cCode X.cx.und X.cx.size X.cx.zero fid x) tm ds rd) st (seqK rec (cCode X.cx.und X.cx.size X.cx.zero fid y) rd k)).holds Θ E.va R := h
    refine wpIn_seq (wpIn_mono (hr.code (f := fid) rfl hN.1 hrd hS hT h) fun e a' w' hq => ?_)
    obtain ⟨ex, tm', ds', st', E', R', rfl, g1, g2, g3, g4, g5, g6⟩ := hq
    cases ex with
    | normal =>
      have g2 : (rec (.code (cCode X.cx.und X.cx.size X.cx.zero fid y) tm' ds' rd) st' k).holds Θ E'.va R' := g2
      exact wpIn_mono (hr.code (f := fid) rfl hN.2 (hrd.mono g3) g4 g6 g2) fun e a w hq => hq.trans g1 g3 g5
    | exit i => exact ⟨.exit i, tm', ds', st', E', R', rfl, g1, g2, g3, g4, g5, g6⟩
    | goto i => exact ⟨.goto i, tm', ds', st', E', R', rfl, g1, g2, g3, g4, g5, g6⟩
    | ret => exact ⟨.ret, tm', ds', st', E', R', rfl, g1, g2, g3, g4, g5, g6⟩
  | cond c x y =>
    simp only [okCode, Bool.and_eq_true] at hN
    change (stCode (Option.rec .bad (fun c => .cond c (cCode X.cx.und X.cx.size X.cx.zero fid x) (cCode X.cx.und X.cx.size X.cx.zero fid y)) (cO c)) X.cx rec tm ds rd st k).holds Θ E.va R at h
    cases hco : cO c with
    | none => rw [hco] at h; exact h.elim
    | some b =>
      rw [hco] at h
      have h : (condK rec (cCode X.cx.und X.cx.size X.cx.zero fid x) (cCode X.cx.und X.cx.size X.cx.zero fid y) tm ds rd st k (ev tm b)).holds Θ E.va R := h
      have hev := hT.rd [c] c (by simp) b hco
      unfold condK at h
      split at h
      · rename_i bb hb
        rw [hb] at hev
        have hev : a.eval c = .bool bb := (Option.some.inj hev).symm
        cases bb with
        | true => exact wpIn_cond_true hev (hr.code (f := fid) rfl hN.1 hrd hS hT h)
        | false => exact wpIn_cond_false hev (hr.code (f := fid) rfl hN.2 hrd hS hT h)
      · rename_i t hb
        rw [hb] at hev
        obtain ⟨bb, ht, hev⟩ := den_cnd hev
        obtain ⟨f, hf', h⟩ := brK_inv h hS.facts ht
        rcases h with ⟨rfl, h⟩ | ⟨rfl, h⟩
        · exact wpIn_cond_true hev (wpIn_mono (hr.code (f := fid) rfl hN.1 hrd (hS.withF hf') hT h) fun e a w hq => hq.trans List.prefix_rfl (.refl E) (hp_withF E st f))
        · exact wpIn_cond_false hev (wpIn_mono (hr.code (f := fid) rfl hN.2 hrd (hS.withF hf') hT h) fun e a w hq => hq.trans List.prefix_rfl (.refl E) (hp_withF E st f))
      · exact h.elim
  | block id b =>
    simp only [okCode] at hN
    have h : (rec (.code (cCode X.cx.und X.cx.size X.cx.zero fid b) tm ds rd) st (blockK id k)).holds Θ E.va R := h
    refine wpIn_block (wpIn_mono (hr.code (f := fid) rfl hN hrd hS hT h) fun e a' w' hq => ?_)
    obtain ⟨ex, tm', ds', st', E', R', rfl, g1, g2, g3, g4, g5, g6⟩ := hq
    cases ex with
    | exit i =>
      have g2 : (bif_ (Nat.beq i id) (k (.code .normal tm' ds' st')) (k (.code (.exit i) tm' ds' st'))).holds Θ E'.va R' := g2
      rw [beq_iff] at g2
      by_cases e : i = id
      · subst e
        rw [decide_eq_true rfl] at g2
        simp only [toExit, Exit.inBlock, if_true]
        exact ⟨.normal, tm', ds', st', E', R', rfl, g1, g2, g3, g4, g5, g6⟩
      · rw [decide_eq_false e] at g2
        simp only [toExit, Exit.inBlock, e, if_false]
        exact ⟨.exit i, tm', ds', st', E', R', rfl, g1, g2, g3, g4, g5, g6⟩
    | normal => exact ⟨.normal, tm', ds', st', E', R', rfl, g1, g2, g3, g4, g5, g6⟩
    | goto i => exact ⟨.goto i, tm', ds', st', E', R', rfl, g1, g2, g3, g4, g5, g6⟩
    | ret => exact ⟨.ret, tm', ds', st', E', R', rfl, g1, g2, g3, g4, g5, g6⟩
  | loop b =>
    simp only [okCode] at hN
    exact wp_of_bodyLoop (hr.loop (an := some (lkey fid b)) (f := fid) rfl hN hrd hS hT h)
  | rangeFunc g ps x y =>
    change (stCode (Option.rec .bad (fun f => .rngf fid f (mapL pth ps.toList) (cCode X.cx.und X.cx.size X.cx.zero fid x) (cCode X.cx.und X.cx.size X.cx.zero fid y)) (cO g)) X.cx rec tm ds rd st k).holds Θ E.va R at h
    cases hg : cO g with
    | none => rw [hg] at h; exact h.elim
    | some bg =>
      rw [hg] at h
      obtain ⟨hB, h⟩ := vif_inv h
      exact rngf_ok hf hr hg hN hB hrd hS hT h
  | «scope» b =>
    have hN : okCode N b = true := hN
    have h : (rec (.code (cCode X.cx.und X.cx.size X.cx.zero fid b) tm ds rd) st (scopeK rec (cCode X.cx.und X.cx.size X.cx.zero fid b) rd k 1000)).holds Θ E.va R := h
    exact wpIn_scope (scope_ok hr hN 1000 b tm ds st st E E R R a w hN hrd hS hT List.prefix_rfl (.refl E) (.refl E st) h)

end
end Go.Sy
/-! A loop's head: names. -/
namespace Go.Sy
noncomputable def setAllF : List (Nat × AV) → Tm → Tm
  | [], tm => tm
  | c :: r, tm => setAllF r (Tr.put (pth c.1) tm (some c.2))
theorem setAll_eq : ∀ (l : List (Nat × AV)) (tm : Tm) (k : Tm → VC), setAll l tm k = k (setAllF l tm)
  | [], tm, k => rfl
  | c :: r, tm, k => by
    show forceV c.2 (fun v => Tr.setP (pth c.1) tm (some v) fun tm => setAll r tm k) = _
    rw [forceV_eq, Tr.setP_eq, setAll_eq r]; rfl
theorem setAllF_slot : ∀ (l : List (Nat × AV)) (tm : Tm) (t : Nat), (∃ v, (t, v) ∈ l ∧ slot (setAllF l tm) (pth t) = v) ∨ ((∀ v, (t, v) ∉ l) ∧ slot (setAllF l tm) (pth t) = slot tm (pth t))
  | [], tm, t => .inr ⟨by simp, rfl⟩
  | c :: r, tm, t => by
    rcases setAllF_slot r (Tr.put (pth c.1) tm (some c.2)) t with ⟨v, h1, h2⟩ | ⟨h1, h2⟩
    · exact .inl ⟨v, List.mem_cons_of_mem _ h1, h2⟩
    · obtain ⟨t', v⟩ := c
      by_cases e : t' = t
      · subst e
        exact .inl ⟨v, by simp, by show slot (setAllF r _) _ = v; rw [h2, slot_put_same]⟩
      · refine .inr ⟨fun u hu => ?_, by show slot (setAllF r _) _ = _; rw [h2, slot_put_other _ _ (fun h => e (pth_inj h))]⟩
        rcases List.mem_cons.1 hu with hu | hu
        · cases hu; exact e rfl
        · exact h1 u hu
noncomputable def cellsSetF : List ((Nat × Nat) × AV) → Tr Blk → Tr Blk
  | [], h => h
  | c :: r, h => match h.get c.1.1 with
    | none => cellsSetF r h
    | some b => cellsSetF r (h.set c.1.1 (some { b with cells := b.cells.set c.1.2 (some c.2) }))
theorem setBlk_eq (b : Blk) (i : Nat) (v : AV) (k : Blk → VC) : setBlk b i v k = k { b with cells := b.cells.set i (some v) } := by
  obtain ⟨sz, t, z, zn, fam, cv, es⟩ := b
  show t.setK i (some v) _ = _
  rw [Tr.setK_eq]
theorem cellsSet_eq : ∀ (l : List ((Nat × Nat) × AV)) (h : Tr Blk) (k : Tr Blk → VC), cellsSet l h k = k (cellsSetF l h)
  | [], h, k => rfl
  | c :: r, h, k => by
    show (Option.rec (cellsSet r h k) (fun b => setBlk b c.1.2 c.2 fun b => h.setK c.1.1 (some b) fun h => cellsSet r h k) (h.get c.1.1) : VC) = k (match h.get c.1.1 with
    | none => cellsSetF r h
    | some b => cellsSetF r (h.set c.1.1 (some { b with cells := b.cells.set c.1.2 (some c.2) })))
    cases h.get c.1.1 with
    | none => exact cellsSet_eq r h k
    | some b =>
      show setBlk b _ _ _ = _
      rw [setBlk_eq, Tr.setK_eq, cellsSet_eq r]
theorem cellsSetF_get : ∀ (l : List ((Nat × Nat) × AV)) (h : Tr Blk) (j : Nat), (h.get j = none → (cellsSetF l h).get j = none) ∧
    ∀ b, h.get j = some b → ∃ t, (cellsSetF l h).get j = some { b with cells := t } ∧ (∀ i, (∃ v, ((j, i), v) ∈ l ∧ t.get i = some v) ∨ ((∀ v, ((j, i), v) ∉ l) ∧ t.get i = b.cells.get i)) ∧ ((∀ i v, ((j, i), v) ∉ l) → t = b.cells)
  | [], h, j => ⟨fun e => e, fun b hb => ⟨b.cells, hb, fun i => .inr ⟨by simp, rfl⟩, fun _ => rfl⟩⟩
  | c :: r, h, j => by
    obtain ⟨⟨k, i0⟩, v0⟩ := c
    have e0 : cellsSetF (((k, i0), v0) :: r) h = match h.get k with
      | none => cellsSetF r h
      | some b => cellsSetF r (h.set k (some { b with cells := b.cells.set i0 (some v0) })) := rfl
    rw [e0]
    cases hk : h.get k with
    | none =>
      obtain ⟨g1, g2⟩ := cellsSetF_get r h j
      refine ⟨g1, fun b hb => ?_⟩
      have hne : j ≠ k := fun e => by subst e; rw [hk] at hb; cases hb
      obtain ⟨t, h1, h2, h3⟩ := g2 b hb
      refine ⟨t, h1, fun i => ?_, fun hn => h3 fun i v hv => hn i v (List.mem_cons_of_mem _ hv)⟩
      rcases h2 i with ⟨v, q1, q2⟩ | ⟨q1, q2⟩
      · exact .inl ⟨v, List.mem_cons_of_mem _ q1, q2⟩
      · refine .inr ⟨fun v hv => ?_, q2⟩
        rcases List.mem_cons.1 hv with hv | hv
        · cases hv; exact hne rfl
        · exact q1 v hv
    | some b0 =>
      obtain ⟨g1, g2⟩ := cellsSetF_get r (h.set k (some { b0 with cells := b0.cells.set i0 (some v0) })) j
      by_cases e : k = j
      · subst e
        refine ⟨fun hn => (by rw [hk] at hn; cases hn), fun b hb => ?_⟩
        rw [hk] at hb; cases hb
        obtain ⟨t, h1, h2, h3⟩ := g2 _ (Tr.get_set_same _ _ _)
        refine ⟨t, h1, fun i => ?_, fun hn => absurd (List.mem_cons_self ..) (hn i0 v0)⟩
        rcases h2 i with ⟨v, q1, q2⟩ | ⟨q1, q2⟩
        · exact .inl ⟨v, List.mem_cons_of_mem _ q1, q2⟩
        · have q2 : t.get i = (b0.cells.set i0 (some v0)).get i := q2
          rw [Tr.get_set] at q2
          by_cases ei : i0 = i
          · subst ei
            rw [if_pos rfl] at q2
            exact .inl ⟨v0, by simp, q2⟩
          · rw [if_neg ei] at q2
            refine .inr ⟨fun v hv => ?_, q2⟩
            rcases List.mem_cons.1 hv with hv | hv
            · cases hv; exact ei rfl
            · exact q1 v hv
      · rw [Tr.get_set_other _ _ e] at g1 g2
        refine ⟨g1, fun b hb => ?_⟩
        obtain ⟨t, h1, h2, h3⟩ := g2 b hb
        refine ⟨t, h1, fun i => ?_, fun hn => h3 fun i v hv => hn i v (List.mem_cons_of_mem _ hv)⟩
        rcases h2 i with ⟨v, q1, q2⟩ | ⟨q1, q2⟩
        · exact .inl ⟨v, List.mem_cons_of_mem _ q1, q2⟩
        · refine .inr ⟨fun v hv => ?_, q2⟩
          rcases List.mem_cons.1 hv with hv | hv
          · cases hv; exact e rfl
          · exact q1 v hv
theorem withH_eq (st : St) (h : Tr Blk) : st.withH h = ⟨st.n, st.nc, h, st.live, st.x⟩ := by obtain ⟨n, nc, h', l, x⟩ := st; rfl
theorem mapLL_eq {α β : Type} (f : α → β) (l : List α) : mapLL f l = l.map f := by
  induction l with
  | nil => rfl
  | cons x l ih => show f x :: mapLL f l = _; rw [ih]; rfl
theorem appL_eq {α : Type} (l m : List α) : appL l m = l ++ m := by
  induction l with
  | nil => rfl
  | cons x l ih => show x :: appL l m = _; rw [ih]; rfl

section
variable {X : Tabs} {K : Nat → Prop} {w0 : World} {E : Env} {st : St} {w : World} {Θ : Pred} {R : List Back} {tm : Tm} {rec : Rec} {N : Nat} {ds : List Nat} {a : Act} {k : Res → VC} {rd r : Option Nat} {fid : FuncId}

/-- More is known, of the same memory. -/
theorem StRel.grow (hS : StRel X K w0 E st w) {E' : Env} (hle : E.Le E') (hm : E'.m = E.m) (hcap : E'.caps = E.caps) {st' : St} (h1 : st'.n = st.n) (h2 : st'.nc = st.nc) (h3 : st'.heap = st.heap) (h4 : st'.live = st.live) (h5 : st'.x.objs = st.x.objs)
    (hz : E'.z.length = st'.x.nz) (ha : E'.a.length = st'.x.na) (ho : E'.o.length = st'.x.no) (hf : FOK E'.va st'.x.facts) (hn : FOK E'.va st'.x.nm) : StRel X K w0 E' st' w ∧ HP E E' st st' := by
  refine ⟨⟨by rw [hm, h1]; exact hS.n_eq, by rw [hcap, h2]; exact hS.c_eq, hz, ha, ho, hS.klt, hS.kept, fun j p hp => hS.ids j p (by rw [← hm]; exact hp), fun j b hb => ?_, fun j b hb => ?_, ?_, ?_, ?_, fun j o hj => ?_, ?_, ?_, hf, ?_, ?_, ⟨(hS.ext.mono hle).ro, hn⟩⟩, fun j hj => ⟨by rw [hm]; exact hj, by rw [h3], by rw [h5], by rw [h4]⟩⟩
  · rw [h1]; exact hS.lt j b (by rw [← h3]; exact hb)
  · rw [h3] at hb
    rcases hS.blks j b hb with h | ⟨id, sh, cs, el, fr, g1, g2, g3⟩
    · exact .inl ⟨by rw [hm]; exact h.1, h.2.1, fun i v hv => (h.2.2 i v hv).mono hle⟩
    · exact .inr ⟨id, sh, cs, el, fr, by rw [hm]; exact g1, g2, g3.mono hle⟩
  · rw [h3, hm]; exact hS.fams
  · rw [h4, h1]; exact hS.livelt
  · intro k b hk k' b' hk' hf
    rw [h3] at hk hk'
    have := hS.lives k b hk k' b' hk' hf
    unfold famOf at this ⊢
    rw [h4]; exact this
  · rw [h5] at hj
    obtain ⟨g1, g2⟩ := hS.objs j o hj
    refine ⟨by rw [h1]; exact g1, ?_⟩
    rcases g2 with g2 | ⟨id, ob, g2, g3, g4⟩
    · exact .inl (by rw [hm]; exact g2)
    · exact .inr ⟨id, ob, by rw [hm]; exact g2, g3, g4.mono hle⟩
  · rw [h5, hm]; exact hS.oinj
  · rw [h5, h3]; exact hS.apart
  · rw [h3, hm]; exact hS.famh
  · rw [h4, hm]; exact hS.liveh

/-- Some cells are said otherwise. -/
theorem StRel.recells (hS : StRel X K w0 E st w) (l : List ((Nat × Nat) × AV)) (hl : ∀ c ∈ l, ∃ b u x p, st.heap.get c.1.1 = some b ∧ E.m[c.1.1]? = some (some p) ∧ b.cell c.1.2 = some u ∧ u.den E = some x ∧ c.2.den E = some x) :
    StRel X K w0 E (st.withH (cellsSetF l st.heap)) w ∧ HP E E st (st.withH (cellsSetF l st.heap)) := by
  rw [withH_eq]
  have back : ∀ j b', (cellsSetF l st.heap).get j = some b' → ∃ b t, st.heap.get j = some b ∧ b' = { b with cells := t } ∧ (∀ i, (∃ v, ((j, i), v) ∈ l ∧ t.get i = some v) ∨ ((∀ v, ((j, i), v) ∉ l) ∧ t.get i = b.cells.get i)) ∧ ((∀ i v, ((j, i), v) ∉ l) → t = b.cells) := by
    intro j b' hb'
    obtain ⟨g1, g2⟩ := cellsSetF_get l st.heap j
    cases hb : st.heap.get j with
    | none => rw [g1 hb] at hb'; cases hb'
    | some b =>
      obtain ⟨t, h1, h2⟩ := g2 b hb
      rw [h1] at hb'; cases hb'
      exact ⟨b, t, rfl, rfl, h2⟩
  refine ⟨⟨hS.n_eq, hS.c_eq, hS.z_eq, hS.a_eq, hS.o_eq, hS.klt, hS.kept, hS.ids, fun j b' hb' => ?_, fun j b' hb' => ?_, fun k1 k2 b1 b2 id1 sh1 id2 sh2 e1 e2 m1 m2 hf => ?_, hS.livelt, fun j b' hb' j2 b2 hb2 hf => ?_, hS.objs, hS.oinj, fun j o hj => ?_, hS.facts, fun j b' p hb' hp => ?_, hS.liveh, hS.ext⟩, fun j hj => ⟨hj, ?_, rfl, rfl⟩⟩
  · obtain ⟨b, t, h1, rfl, _⟩ := back j b' hb'
    exact hS.lt j b h1
  · obtain ⟨b, t, h1, rfl, h2, h3⟩ := back j b' hb'
    rcases hS.blks j b h1 with h | ⟨id, sh, cs, el, fr, g1, g2, g3⟩
    · have ht : t = b.cells := h3 fun i v hv => by
        obtain ⟨_, _, _, p, _, q, _⟩ := hl _ hv
        rw [h.1] at q; cases q
      subst ht
      exact .inl h
    · refine .inr ⟨id, sh, cs, el, fr, g1, g2, ⟨g3.free, g3.room, fun i v hv => ?_, g3.cap, fun i v hv => ?_⟩⟩
      · have hv : t.get i = some v := hv
        show i < b.sz
        rcases h2 i with ⟨u, q1, q2⟩ | ⟨q1, q2⟩
        · obtain ⟨b', u', x, p, e1, e2, e3, e4, e5⟩ := hl _ q1
          simp only at e1 e3
          rw [h1] at e1; cases e1
          rw [cell_eq] at e3
          cases hc : b.cells.get i with
          | some y => exact g3.bnd i y hc
          | none =>
            rw [hc] at e3
            simp only at e3
            by_cases c : i < b.sz
            · exact c
            · rw [if_neg c] at e3; cases e3
        · rw [q2] at hv; exact g3.bnd i v hv
      · rw [cell_eq] at hv
        have hv : (match t.get i with | some v => some v | none => if i < b.sz then (match b.zn with | 0 => none | j + 1 => b.z[i % (j + 1)]?) else none) = some v := hv
        rcases h2 i with ⟨u, q1, q2⟩ | ⟨q1, q2⟩
        · rw [q2] at hv; cases hv
          obtain ⟨b', u', x, p, e1, e2, e3, e4, e5⟩ := hl _ q1
          simp only at e1 e3 e5
          rw [h1] at e1; cases e1
          obtain ⟨y, f1, f2⟩ := g3.cells i u' e3
          rw [e4] at f1; cases f1
          exact ⟨x, e5, f2⟩
        · rw [q2] at hv
          exact g3.cells i v (by rw [cell_eq]; exact hv)
  · obtain ⟨c1, t1, f1, rfl, _⟩ := back k1 b1 e1
    obtain ⟨c2, t2, f2, rfl, _⟩ := back k2 b2 e2
    exact hS.fams k1 k2 c1 c2 id1 sh1 id2 sh2 f1 f2 m1 m2 hf
  · obtain ⟨c1, t1, f1, rfl, _⟩ := back j b' hb'
    obtain ⟨c2, t2, f2, rfl, _⟩ := back j2 b2 hb2
    exact hS.lives j c1 f1 j2 c2 f2 hf
  · have := hS.apart j o hj
    exact (cellsSetF_get l st.heap j).1 this
  · obtain ⟨c1, t1, f1, rfl, _⟩ := back j b' hb'
    exact hS.famh j c1 p f1 hp
  · show (cellsSetF l st.heap).get j = st.heap.get j
    obtain ⟨g1, g2⟩ := cellsSetF_get l st.heap j
    cases hb : st.heap.get j with
    | none => exact g1 hb
    | some b =>
      obtain ⟨t, h1, h2, h3⟩ := g2 b hb
      have ht : t = b.cells := h3 fun i v hv => by
        obtain ⟨_, _, _, p, _, q, _⟩ := hl _ hv
        simp only at q
        rw [hj] at q; cases q
      rw [h1, ht]

/-! ### Names -/
theorem Va.add_nil (ρ : Va) (zs : List Int) : ρ.add zs [] = ⟨ρ.z ++ zs, ρ.a⟩ := by simp [Va.add]
theorem nameK_ok {w : World} {v : AV} {x : Value} {k : AV → St → VC} (hS : StRel X K w0 E st w) (hv : v.den E = some x) (h : (nameK v st k).holds Θ E.va R) :
    ∃ v' st' E', (k v' st').holds Θ E'.va R ∧ E.Le E' ∧ StRel X K w0 E' st' w ∧ HP E E' st st' ∧ v'.den E' = some x ∧ st'.heap = st.heap ∧ E'.m = E.m := by
  have triv : (k v st).holds Θ E.va R → _ := fun h => (⟨v, st, E, h, .refl E, hS, .refl E st, hv, rfl, rfl⟩ : ∃ v' st' E', (k v' st').holds Θ E'.va R ∧ E.Le E' ∧ StRel X K w0 E' st' w ∧ HP E E' st st' ∧ v'.den E' = some x ∧ st'.heap = st.heap ∧ E'.m = E.m)
  cases v with
  | sym kd t =>
    obtain ⟨n0, nc, hp, l, o, s, f, nz, na, no, nm⟩ := st
    change (bif_ (isVar t) _ _ : VC).holds Θ E.va R at h
    cases e : isVar t with
    | true => rw [e] at h; exact triv h
    | false =>
      rw [e, bif_false] at h
      obtain ⟨n, ht, hw, rfl⟩ := den_sym hv
      have hzl : E.z.length = nz := hS.z_eq
      have hE : E.Le { E with z := E.z ++ [n] } := ⟨fun _ _ h => h, fun _ _ h => h, by have := Va.le_add E.va [n] []; rw [Va.add_nil] at this; exact this, fun _ _ h => h, fun k h => ⟨none, h, fun _ e => by cases e⟩⟩
      have hz : (T.zv nz).ev (⟨E.z ++ [n], E.a⟩ : Va) = some (.i n) := by simp [T.ev, ← hzl]
      have heq : (T.cmp .eql (.zv nz) t).ev (⟨E.z ++ [n], E.a⟩ : Va) = some (.b true) := by
        rw [cmp_ev hz (ev_mono hE.va ht)]
        simp [zcm]
      have h := h [n] [] rfl rfl (by
        rw [Va.add_nil]
        intro a ha
        rw [List.mem_singleton.1 ha]
        exact heq)
      rw [Va.add_nil, natK_eq] at h
      obtain ⟨g1, g2⟩ := hS.grow (st' := ⟨n0, nc, hp, l, ⟨o, s, f, Nat.succ nz, na, no, .cmp .eql (.zv nz) t :: nm⟩⟩) hE rfl rfl rfl rfl rfl rfl rfl (by simp [hzl]) hS.a_eq hS.o_eq (hS.facts.mono hE.va) ((hS.ext.names.mono hE.va).cons heq)
      exact ⟨_, _, _, h, hE, g1, g2, den_sym_of hz hw, rfl, rfl⟩
  | _ => exact triv h
theorem namesK_ok {w : World} : ∀ {l : List AV} {st : St} {E : Env} {xs : List Value} {k : List AV → St → VC}, StRel X K w0 E st w → denL E l = some xs → (namesK l st k).holds Θ E.va R →
    ∃ l' st' E', (k l' st').holds Θ E'.va R ∧ E.Le E' ∧ StRel X K w0 E' st' w ∧ HP E E' st st' ∧ denL E' l' = some xs ∧ st'.heap = st.heap ∧ E'.m = E.m
  | [], st, E, xs, k, hS, hx, h => ⟨[], st, E, h, .refl E, hS, .refl E st, hx, rfl, rfl⟩
  | v :: l, st, E, xs, k, hS, hx, h => by
    obtain ⟨x, xs', hx1, hx2, rfl⟩ := denL_cons.1 hx
    obtain ⟨v', st1, E1, h1, h2, h3, h4, h5, h6, h7⟩ := nameK_ok hS hx1 h
    obtain ⟨l', st2, E2, g1, g2, g3, g4, g5, g6, g7⟩ := namesK_ok h3 (denL_mono h2 l hx2) h1
    exact ⟨v' :: l', st2, E2, g1, h2.trans g2, g3, h4.trans g4, denL_cons.2 ⟨x, xs', den_mono g2 _ h5, g5, rfl⟩, by rw [g6, h6], by rw [g7, h7]⟩
theorem readLs_spec {st : St} : ∀ {ls : List (Nat × Nat)} {cs : List AV}, readLs st ls = some cs → cs.length = ls.length ∧ ∀ (j : Nat) (c : Nat × Nat) (v : AV), ls[j]? = some c → cs[j]? = some v → ∃ b, st.heap.get c.1 = some b ∧ b.cell c.2 = some v
  | [], cs, h => by cases h; exact ⟨rfl, fun j c v hj => by simp at hj⟩
  | c :: r, cs, h => by
    obtain ⟨b, hb, h⟩ := obind_inv h
    obtain ⟨v, hv, h⟩ := obind_inv h
    obtain ⟨vs, hvs, h⟩ := obind_inv h
    cases h
    obtain ⟨h1, h2⟩ := readLs_spec hvs
    refine ⟨by simp [h1], fun j c' v' hj hj' => ?_⟩
    cases j with
    | zero => simp at hj hj'; subst hj; subst hj'; exact ⟨b, hb, hv⟩
    | succ j => exact h2 j c' v' (by simpa using hj) (by simpa using hj')
theorem places_mem {k n off : Nat} : ∀ {c : Nat × Nat}, c ∈ locsOf.places k off n → c.1 = k := by
  induction n generalizing off with
  | zero => intro c h; cases h
  | succ n ih =>
    intro c h
    have h : c ∈ (k, off) :: locsOf.places k (Nat.succ off) n := h
    rcases List.mem_cons.1 h with rfl | h
    · rfl
    · exact ih h
theorem locsOf_placed {tmps : Array Value} (hT : SlotRel E tm tmps) : ∀ {cells : List (Nat × Nat × Nat)} {ls : List (Nat × Nat)}, locsOf tm cells = some ls → ∀ c ∈ ls, ∃ p, E.m[c.1]? = some (some p)
  | [], ls, h, c, hc => by cases h; cases hc
  | q :: r, ls, h, c, hc => by
    obtain ⟨ad, had, h⟩ := obind_inv h
    split at h
    · rename_i kk hkk
      obtain ⟨l, hl, h⟩ := obind_inv h
      cases h
      rw [appL_eq] at hc
      rcases List.mem_append.1 hc with hc | hc
      · rw [places_mem hc]
        obtain ⟨x, hx, _⟩ := hT.slots q.1
        have e : slot tm (pth q.1) = .ptr (some ad) := by
          unfold asPtr at had
          split at had
          · rename_i e; rw [e]; cases had; rfl
          · cases had
        rw [e] at hx
        obtain ⟨y, hy, _⟩ := den_ptr hx
        obtain ⟨b, off⟩ := ad
        simp only at hkk
        subst hkk
        obtain ⟨p, hp, _⟩ := aden_r hy
        exact ⟨p, hp⟩
      · exact locsOf_placed hT hl c hc
    · cases h
theorem zipP_eq {α β : Type} : ∀ (l : List α) (m : List β), zipP l m = l.zip m
  | [], m => by cases m <;> rfl
  | a :: l, [] => rfl
  | a :: l, b :: m => by show (a, b) :: zipP l m = _; rw [zipP_eq l m]; rfl
theorem zip_mem {α β : Type} {l : List α} {m : List β} {x : α} {y : β} (h : (x, y) ∈ l.zip m) : ∃ j : Nat, l[j]? = some x ∧ m[j]? = some y := by
  obtain ⟨j, hj⟩ := List.getElem?_of_mem h
  rw [List.getElem?_zip_eq_some] at hj
  exact ⟨j, hj⟩
/-- What is read of memory has a meaning. -/
theorem readLs_den (hS : StRel X K w0 E st w) {ls : List (Nat × Nat)} {cs : List AV} (h : readLs st ls = some cs) (hp : ∀ c ∈ ls, ∃ p, E.m[c.1]? = some (some p)) : ∃ xs, denL E cs = some xs := by
  obtain ⟨h1, h2⟩ := readLs_spec h
  refine ⟨cs.map fun v => (v.den E).getD undef, denL_of (by simp) fun j v hj => ?_⟩
  have hlt : j < ls.length := by have := (List.getElem?_eq_some_iff.1 hj).1; omega
  obtain ⟨b, hb, hv⟩ := h2 j ls[j] v (by simp [hlt]) hj
  obtain ⟨p, hp⟩ := hp ls[j] (List.getElem_mem hlt)
  obtain ⟨c', el, fr, _, hr⟩ := blk_of hS hb hp
  obtain ⟨x, hx, _⟩ := hr.cells _ v hv
  exact ⟨x, hx, by simp [hj, hx]⟩
theorem slots_den {tmps : Array Value} (hT : SlotRel E tm tmps) (l : List Nat) : denL E (l.map fun t => slot tm (pth t)) = some (l.map fun t => tmps.getD t undef) := by
  induction l with
  | nil => rfl
  | cons t l ih =>
    obtain ⟨x, h1, h2⟩ := hT.slots t
    exact denL_cons.2 ⟨_, _, h1, ih, by rw [List.map_cons, h2]⟩

theorem nmLoop_ok {c : BC} {an : Option Nat} {slots : List Nat} {cells : Tm → List (Nat × Nat × Nat)} (hS : StRel X K w0 E st w) (hT : TmRel E tm ds a N)
    (h : (nmLoop rec an c slots cells tm ds rd st k).holds Θ E.va R) : ∃ tm' st' E', E.Le E' ∧ StRel X K w0 E' st' w ∧ HP E E' st st' ∧ TmRel E' tm' ds a N ∧ (plainLoop rec an c tm' ds rd st' k).holds Θ E'.va R := by
  obtain ⟨ls, hls, h⟩ := vbind_inv h
  obtain ⟨cs, hcs, h⟩ := vbind_inv h
  rw [mapLL_eq] at h
  have hpl := locsOf_placed hT.rel hls
  obtain ⟨us, st1, E1, h1, h2, h3, h4, h5, h6, h7⟩ := namesK_ok hS (slots_den hT.rel slots) h
  obtain ⟨xs, hxs⟩ := readLs_den hS hcs hpl
  obtain ⟨vs, st2, E2, g1, g2, g3, g4, g5, g6, g7⟩ := namesK_ok h3 (denL_mono h2 cs hxs) h1
  rw [setAll_eq, cellsSet_eq, zipP_eq, zipP_eq] at g1
  have hle := h2.trans g2
  have hheap : st2.heap = st.heap := by rw [g6, h6]
  have hm : E2.m = E.m := by rw [g7, h7]
  obtain ⟨hc1, hc2⟩ := readLs_spec hcs
  have hre := g3.recells (ls.zip vs) fun c hc => by
    obtain ⟨c1, v⟩ := c
    obtain ⟨j, hj1, hj2⟩ := zip_mem hc
    obtain ⟨x, hx1, hx2⟩ := denL_get g5 hj2
    have hlt : j < cs.length := by have := (List.getElem?_eq_some_iff.1 hj1).1; omega
    obtain ⟨b, hb, hv⟩ := hc2 j c1 cs[j] hj1 (by simp [hlt])
    obtain ⟨p, hp⟩ := hpl c1 (List.mem_of_getElem? hj1)
    obtain ⟨y, hy1, hy2⟩ := denL_get hxs (i := j) (v := cs[j]) (by simp [hlt])
    rw [hx2] at hy2; cases hy2
    exact ⟨b, cs[j], x, p, by rw [hheap]; exact hb, by rw [hm]; exact hp, hv, den_mono hle _ hy1, hx1⟩
  refine ⟨_, _, E2, hle, hre.1, (h4.trans g4).trans hre.2, ⟨hT.size, hT.defers.mono hle, ⟨fun t => ?_⟩⟩, g1⟩
  obtain ⟨x, hx1, hx2⟩ := hT.rel.slots t
  rcases setAllF_slot (slots.zip us) tm t with ⟨v, q1, q2⟩ | ⟨_, q2⟩
  · rw [q2]
    obtain ⟨j, hj1, hj2⟩ := zip_mem q1
    obtain ⟨y, hy1, hy2⟩ := denL_get (denL_mono g2 us h5) hj2
    refine ⟨y, hy1, ?_⟩
    rw [List.getElem?_map, hj1] at hy2
    exact Option.some.inj hy2
  · rw [q2]
    exact ⟨x, den_mono hle _ hx1, hx2⟩
end
end Go.Sy
/-! A loop's head: what always holds. -/
namespace Go.Sy
def valOf : Option IntKind → Int → Value
  | none, z => .bool (decide (z ≠ 0))
  | some k, z => .int k z
def okKd : Option IntKind → Int → Prop
  | none, _ => True
  | some k, z => (Lit.int k z).wf = true
def KR : List (Option IntKind) → List Int → List Value → Prop
  | [], [], [] => True
  | k :: ks, z :: zs, x :: xs => x = valOf k z ∧ okKd k z ∧ KR ks zs xs
  | _, _, _ => False
theorem KR.len : ∀ {ks : List (Option IntKind)} {zs : List Int} {xs : List Value}, KR ks zs xs → ks.length = zs.length ∧ xs.length = zs.length
  | [], [], [], _ => ⟨rfl, rfl⟩
  | _ :: _, _ :: _, _ :: _, h => by have := h.2.2.len; simp [this.1, this.2]
  | [], [], _ :: _, h => h.elim
  | [], _ :: _, _, h => h.elim
  | _ :: _, [], _, h => h.elim
  | _ :: _, _ :: _, [], h => h.elim
theorem evL_append {ρ : Va} : ∀ {a b : List T} {da db : List D}, evL ρ a = some da → evL ρ b = some db → evL ρ (a ++ b) = some (da ++ db)
  | [], b, da, db, h, h' => by cases h; exact h'
  | t :: a, b, da, db, h, h' => by
    simp only [evL] at h
    cases ht : t.ev ρ with
    | none => simp [ht] at h
    | some d =>
      cases ha : evL ρ a with
      | none => simp [ht, ha] at h
      | some da' =>
        simp only [ht, ha] at h
        cases h
        show (match t.ev ρ, evL ρ (a ++ b) with | some d, some l => some (d :: l) | _, _ => none) = _
        rw [ht, evL_append ha h']; rfl
theorem evL_split {ρ : Va} : ∀ {a b : List T} {d : List D}, evL ρ (a ++ b) = some d → ∃ da db, evL ρ a = some da ∧ evL ρ b = some db ∧ d = da ++ db
  | [], b, d, h => ⟨[], d, rfl, h, rfl⟩
  | t :: a, b, d, h => by
    have h : (match t.ev ρ, evL ρ (a ++ b) with | some d, some l => some (d :: l) | _, _ => none) = some d := h
    cases ht : t.ev ρ with
    | none => rw [ht] at h; cases h
    | some x =>
      cases hl : evL ρ (a ++ b) with
      | none => rw [ht, hl] at h; cases h
      | some l =>
        rw [ht, hl] at h; cases h
        obtain ⟨da, db, h1, h2, rfl⟩ := evL_split hl
        exact ⟨x :: da, db, by simp [evL, ht, h1], h2, rfl⟩
theorem evL_mono {ρ ρ' : Va} (h : ρ.Le ρ') : ∀ {l : List T} {d : List D}, evL ρ l = some d → evL ρ' l = some d
  | [], d, hd => hd
  | t :: l, d, hd => by
    simp only [evL] at hd ⊢
    cases ht : t.ev ρ with
    | none => simp [ht] at hd
    | some x =>
      cases hl : evL ρ l with
      | none => simp [ht, hl] at hd
      | some xs => rw [ev_mono h ht, evL_mono h hl]; simpa [ht, hl] using hd

section
variable {X : Tabs} {K : Nat → Prop} {w0 : World} {E : Env} {st : St} {w : World} {Θ : Pred} {R : List Back} {tm : Tm} {rec : Rec} {N : Nat} {ds : List Nat} {a : Act} {k : Res → VC} {rd r : Option Nat} {fid : FuncId}

theorem kdsK_inv : ∀ {l : List AV} {st : St} {k : List (Option IntKind) → List T → St → VC} {xs : List Value}, (kdsK l st k).holds Θ E.va R → FOK E.va st.facts → denL E l = some xs →
    ∃ ks ts zs f, FOK E.va f ∧ (k ks ts (st.withF f)).holds Θ E.va R ∧ evL E.va ts = some (zs.map .i) ∧ ts.length = zs.length ∧ KR ks zs xs
  | [], st, k, xs, h, hf, hx => by
    rw [denL_nil.1 hx]
    exact ⟨[], [], [], st.facts, hf, by rw [withF_self]; exact h, rfl, rfl, trivial⟩
  | v :: l, st, k, xs, h, hf, hx => by
    obtain ⟨x, xs', hx1, hx2, rfl⟩ := denL_cons.1 hx
    cases v with
    | int kd u =>
      obtain ⟨ks, ts, zs, f, h1, h2, h3, h4, h5⟩ := kdsK_inv (l := l) (st := st) h hf hx2
      obtain ⟨hu, rfl⟩ := den_int hx1
      exact ⟨_, _, sgn kd u :: zs, f, h1, h2, by simp [evL, T.ev, h3], by simp [h4], rfl, sgn_wf kd hu, h5⟩
    | sym kd t =>
      obtain ⟨ks, ts, zs, f, h1, h2, h3, h4, h5⟩ := kdsK_inv (l := l) (st := st) h hf hx2
      obtain ⟨n, hn, hw, rfl⟩ := den_sym hx1
      exact ⟨_, _, n :: zs, f, h1, h2, by simp [evL, hn, h3], by simp [h4], rfl, hw, h5⟩
    | bool b =>
      obtain ⟨ks, ts, zs, f, h1, h2, h3, h4, h5⟩ := kdsK_inv (l := l) (st := st) h hf hx2
      cases hx1
      refine ⟨_, _, Int.ofNat (bif_ b 1 0) :: zs, f, h1, h2, by simp [evL, T.ev, h3], by simp [h4], ?_, trivial, h5⟩
      cases b <;> rfl
    | cnd c =>
      obtain ⟨b, hc, rfl⟩ := den_cnd hx1
      have h : (brK c st (fun st => kdsK l st fun ks ts st => k (none :: ks) (.z (.ofNat 1) :: ts) st) (fun st => kdsK l st fun ks ts st => k (none :: ks) (.z (.ofNat 0) :: ts) st)).holds Θ E.va R := h
      obtain ⟨f0, hf0, h⟩ := brK_inv h hf hc
      rcases h with ⟨rfl, h⟩ | ⟨rfl, h⟩
      · obtain ⟨ks, ts, zs, f, h1, h2, h3, h4, h5⟩ := kdsK_inv (l := l) h (by show FOK E.va (st.withF f0).x.facts; have := withF_facts st f0; unfold St.facts at this; rw [this]; exact hf0) hx2
        rw [withF_withF] at h2
        exact ⟨_, _, 1 :: zs, f, h1, h2, by simp [evL, T.ev, h3], by simp [h4], rfl, trivial, h5⟩
      · obtain ⟨ks, ts, zs, f, h1, h2, h3, h4, h5⟩ := kdsK_inv (l := l) h (by show FOK E.va (st.withF f0).x.facts; have := withF_facts st f0; unfold St.facts at this; rw [this]; exact hf0) hx2
        rw [withF_withF] at h2
        exact ⟨_, _, 0 :: zs, f, h1, h2, by simp [evL, T.ev, h3], by simp [h4], rfl, trivial, h5⟩
    | _ => exact h.elim

theorem newVs_den {E' : Env} : ∀ {ks : List (Option IntKind)} {gz : List Int} {xs : List Value} {i : Nat}, KR ks gz xs → (∀ j n, gz[j]? = some n → E'.z[i + j]? = some n) → denL E' (newVs i ks) = some xs
  | [], [], [], i, _, _ => rfl
  | k :: ks, z :: zs, x :: xs, i, ⟨h1, h2, h3⟩, hz => by
    have hz0 : E'.z[i]? = some z := by have := hz 0 z rfl; simpa using this
    refine denL_cons.2 ⟨x, xs, ?_, newVs_den (i := i + 1) h3 fun j n hj => by rw [show i + 1 + j = i + (j + 1) by omega]; exact hz (j + 1) n hj, rfl⟩
    have he : (T.zv i).ev E'.va = some (.i z) := by simp [T.ev, Env.va, hz0]
    cases k with
    | none =>
      rw [h1]
      show (AV.cnd (.cmp .neq (.zv i) (.z (.ofNat 0)))).den E' = _
      rw [den_cnd_of (b := decide (z ≠ 0))]
      · rfl
      · rw [cmp_ev he rfl]; rfl
    | some kd =>
      rw [h1]
      exact den_sym_of he h2
  | [], [], _ :: _, _, h, _ => h.elim
  | [], _ :: _, _, _, h, _ => h.elim
  | _ :: _, [], _, _, h, _ => h.elim
  | _ :: _, _ :: _, [], _, h, _ => h.elim
theorem rngs_ok {ρ : Va} : ∀ {ks : List (Option IntKind)} {gz : List Int} {xs : List Value} {i : Nat}, KR ks gz xs → (∀ j n, gz[j]? = some n → ρ.z[i + j]? = some n) → FOK ρ (rngs i ks)
  | [], [], [], i, _, _ => fun c hc => by cases hc
  | k :: ks, z :: zs, x :: xs, i, ⟨h1, h2, h3⟩, hz => by
    have hz0 : ρ.z[i]? = some z := by have := hz 0 z rfl; simpa using this
    have ih := rngs_ok (ρ := ρ) (i := i + 1) h3 fun j n hj => by rw [show i + 1 + j = i + (j + 1) by omega]; exact hz (j + 1) n hj
    have he : (T.zv i).ev ρ = some (.i z) := by simp [T.ev, hz0]
    cases k with
    | none => exact ih
    | some kd =>
      have := wf_range h2
      have e1 : (T.cmp .geq (.zv i) (.z (minOf kd))).ev ρ = some (.b true) := by rw [cmp_ev he rfl]; simp [zcm, this.1]
      have e2 : (T.cmp .leq (.zv i) (.z (maxOf kd))).ev ρ = some (.b true) := by rw [cmp_ev he rfl]; simp [zcm, this.2]
      exact (ih.cons e2).cons e1
  | [], [], _ :: _, _, h, _ => h.elim
  | [], _ :: _, _, _, h, _ => h.elim
  | _ :: _, [], _, _, h, _ => h.elim
  | _ :: _, _ :: _, [], _, h, _ => h.elim
theorem zvs_ev {ρ : Va} : ∀ {gz : List Int} {i : Nat}, (∀ j n, gz[j]? = some n → ρ.z[i + j]? = some n) → evL ρ (zvs i gz.length) = some (gz.map .i)
  | [], i, _ => rfl
  | z :: zs, i, hz => by
    have hz0 : ρ.z[i]? = some z := by have := hz 0 z rfl; simpa using this
    have ih := zvs_ev (ρ := ρ) (gz := zs) (i := i + 1) fun j n hj => by rw [show i + 1 + j = i + (j + 1) by omega]; exact hz (j + 1) n hj
    show (match (T.zv i).ev ρ, evL ρ (zvs (i + 1) zs.length) with | some d, some l => some (d :: l) | _, _ => none) = _
    rw [ih]
    simp [T.ev, hz0]
theorem deads_mem : ∀ {l : List Nat} {i t : Nat} {v : AV}, (t, v) ∈ deads i l → ∃ j : Nat, l[j]? = some t ∧ v = .dead (i + j)
  | [], i, t, v, h => by cases h
  | u :: l, i, t, v, h => by
    have h : (t, v) ∈ (u, AV.dead i) :: deads (i + 1) l := h
    rcases List.mem_cons.1 h with h | h
    · cases h; exact ⟨0, rfl, rfl⟩
    · obtain ⟨j, h1, h2⟩ := deads_mem h
      exact ⟨j + 1, by simpa using h1, by rw [h2]; congr 1; omega⟩
/-- What has a meaning in an elder state has it in a later one, and in any that says as much as the elder one. -/
theorem den_det {E E2 E1 : Env} (h2 : E.Le E2) (h1 : E.Le E1) {v : AV} {x y : Value} (hx : v.den E = some x) (hy : v.den E2 = some y) : v.den E1 = some y := by
  have := den_mono h2 v hx
  rw [this] at hy; cases hy
  exact den_mono h1 v hx
theorem ents_det {E E2 E1 : Env} (h2 : E.Le E2) (h1 : E.Le E1) : ∀ {es : List (AV × AV × Nat)} {ms ms2 : List MapEntry}, EntsRel E es ms → EntsRel E2 es ms2 → EntsRel E1 es ms2
  | [], [], [], _, _ => trivial
  | _ :: _, _ :: _, _ :: _, ⟨⟨a1, a2, _⟩, a4⟩, ⟨⟨b1, b2, b3⟩, b4⟩ => ⟨⟨den_det h2 h1 a1 b1, den_det h2 h1 a2 b2, b3⟩, ents_det h2 h1 a4 b4⟩
  | [], [], _ :: _, _, h => h.elim
  | [], _ :: _, _, h, _ => h.elim
  | _ :: _, [], _, h, _ => h.elim
  | _ :: _, _ :: _, [], _, h => h.elim
theorem m_det {E E2 E1 : Env} (h2 : E.Le E2) (h1 : E.Le E1) {k : Nat} {p q : Nat × Nat} (hx : E.m[k]? = some (some p)) (hy : E2.m[k]? = some (some q)) : E1.m[k]? = some (some q) := by
  rw [h2.m _ _ hx] at hy; cases hy; exact h1.m _ _ hx
theorem slots_det {E E2 E1 : Env} (h2 : E.Le E2) (h1 : E.Le E1) {tm : Tm} {t1 t2 : Array Value} (a : SlotRel E tm t1) (b : SlotRel E2 tm t2) : SlotRel E1 tm t2 :=
  ⟨fun t => by
    obtain ⟨x, e1, _⟩ := a.slots t
    obtain ⟨y, e2, e3⟩ := b.slots t
    exact ⟨y, den_det h2 h1 e1 e2, e3⟩⟩
theorem ob_det {E E2 E1 : Env} (h2 : E.Le E2) (h1 : E.Le E1) {o : Ob} {ob ob2 : Obj} (ho : ObRel X E o ob) (ho2 : ObRel X E2 o ob2) : ObRel X E1 o ob2 := by
  cases o with
  | map es c =>
    cases ob <;> simp only [ObRel] at ho
    cases ob2 <;> simp only [ObRel] at ho2 ⊢
    exact ⟨ho2.1, ents_det h2 h1 ho.2 ho2.2⟩
  | strIt n s p => cases ob2 <;> exact ho2
  | mapIt m c l d =>
    cases ob <;> simp only [ObRel] at ho
    cases ob2 <;> simp only [ObRel] at ho2 ⊢
    rename_i r1 _ _ _ r2 _ _ _
    obtain ⟨a1, _⟩ := ho
    obtain ⟨b1, b2⟩ := ho2
    refine ⟨?_, b2⟩
    cases m <;> cases r1 <;> cases r2 <;> first | trivial | exact a1.elim | exact b1.elim | exact m_det h2 h1 a1 b1
  | loop s p f tm ps x y d =>
    cases ob <;> simp only [ObRel] at ho
    cases ob2 <;> simp only [ObRel] at ho2 ⊢
    obtain ⟨a1, a2, a4, a5, a6, a7, a8, a9, a10, a11⟩ := ho
    obtain ⟨b1, b2, b4, b5, b6, b7, b8, b9, b10, b11⟩ := ho2
    exact ⟨b1, b2, slots_det h2 h1 a4 b4, b5, b6, b7, b8, b9, b10, m_det h2 h1 a11 b11⟩
  | dfr b => cases ob2 <;> first | exact ho2 | (cases b <;> exact ho2)
end
end Go.Sy
/-! A loop's head: what a round changes is forgotten. -/
namespace Go.Sy
section
variable {X : Tabs} {K : Nat → Prop} {w0 : World} {E : Env} {st : St} {w : World} {Θ : Pred} {R : List Back} {tm : Tm} {rec : Rec} {N : Nat} {ds : List Nat} {a : Act} {k : Res → VC} {rd r : Option Nat} {fid : FuncId}

def Env.hav (E E2 : Env) (n nc : Nat) (gz : List Int) (od : List Value) : Env := ⟨E2.m.take n, E2.caps.take nc, E.z ++ gz, E.a, E.o ++ od⟩
noncomputable def St.hav (st : St) (uc : List ((Nat × Nat) × AV)) (ks : List (Option IntKind)) (nz' no' : Nat) : St :=
  ⟨st.n, st.nc, cellsSetF uc st.heap, st.live, ⟨st.x.objs, st.x.sh, rngs st.x.nz ks ++ st.x.facts, nz', st.x.na, no', st.x.nm⟩⟩
theorem dfr_det {E E2 E1 : Env} (h2 : E.Le E2) (h1 : E.Le E1) : ∀ {l : List Nat} {r r2 : List Deferred}, DfRel E l r → DfRel E2 l r2 → DfRel E1 l r2
  | [], _, [], _, _ => trivial
  | _ :: _, _ :: _, _ :: _, ⟨⟨_, a1, _⟩, a2⟩, ⟨⟨id2, b1, b2⟩, b3⟩ => ⟨⟨id2, m_det h2 h1 a1 b1, b2⟩, dfr_det h2 h1 a2 b3⟩
  | [], _, _ :: _, _, h => h.elim
  | _ :: _, [], _, h, _ => h.elim
  | _ :: _, _ :: _, [], _, h => h.elim

theorem rehavoc (hS : StRel X K w0 E st w) (hT : TmRel E tm ds a N) {ls : List (Nat × Nat)} (hpl : ∀ c ∈ ls, ∃ p, E.m[c.1]? = some (some p))
    {E2 : Env} {st2 : St} {w2 : World} {tm2 : Tm} {a2 : Act} (hE : E.Le E2) (hS2 : StRel X K w0 E2 st2 w2) (hT2 : TmRel E2 tm2 ds a2 N) (hH : HP E E2 st st2)
    {slots dead : List Nat} {cs2 : List AV} {xs2 : List Value} {ks : List (Option IntKind)} {gz : List Int} (hcs2 : readLs st2 ls = some cs2) (hks : KR ks gz xs2) (hxs2 : denL E2 (slots.map (fun t => slot tm2 (pth t)) ++ cs2) = some xs2)
    {ups : List (Nat × AV)} {uc : List ((Nat × Nat) × AV)} (hups : ups = slots.zip (newVs st.x.nz ks) ++ deads st.x.no dead) (huc : uc = ls.zip ((newVs st.x.nz ks).drop slots.length))
    (htm : ∀ t, slot (setAllF ups tm) (pth t) = slot (setAllF ups tm2) (pth t)) (hheap : ∀ j, j < st.n → (cellsSetF uc st.heap).get j = (cellsSetF uc st2.heap).get j)
    (hobjs : ∀ j, j < st.n → st.x.objs.get j = st2.x.objs.get j) (hlive : ∀ j, j < st.n → st.live.get j = st2.live.get j) :
    E.Le (E.hav E2 st.n st.nc gz (dead.map fun t => a2.tmps.getD t undef)) ∧ StRel X K w0 (E.hav E2 st.n st.nc gz (dead.map fun t => a2.tmps.getD t undef)) (st.hav uc ks (st.x.nz + gz.length) (st.x.no + dead.length)) w2 ∧
      TmRel (E.hav E2 st.n st.nc gz (dead.map fun t => a2.tmps.getD t undef)) (setAllF ups tm) ds a2 N ∧ HP E (E.hav E2 st.n st.nc gz (dead.map fun t => a2.tmps.getD t undef)) st (st.hav uc ks (st.x.nz + gz.length) (st.x.no + dead.length)) := by
  generalize hod : (dead.map fun t => a2.tmps.getD t undef) = od
  have hodl : od.length = dead.length := by rw [← hod]; simp
  obtain ⟨E1, hE1⟩ : ∃ E1, E1 = E.hav E2 st.n st.nc gz od := ⟨_, rfl⟩
  have hm1 : ∀ j, j < st.n → E1.m[j]? = E2.m[j]? := fun j hj => by rw [hE1]; show (E2.m.take st.n)[j]? = _; rw [List.getElem?_take, if_pos hj]
  have hm1' : ∀ (j : Nat) q, E1.m[j]? = some q → j < st.n ∧ E2.m[j]? = some q := fun j q hq => by
    have hj : j < st.n := by
      rw [hE1] at hq
      have hq : (E2.m.take st.n)[j]? = some q := hq
      rw [List.getElem?_take] at hq
      by_cases c : j < st.n
      · exact c
      · rw [if_neg c] at hq; cases hq
    exact ⟨hj, by rw [← hm1 j hj]; exact hq⟩
  have hlt : ∀ {j : Nat} {q}, E.m[j]? = some q → j < st.n := fun h => by rw [← hS.n_eq]; exact (List.getElem?_eq_some_iff.1 h).1
  have hle : E.Le E1 := by
    refine ⟨fun j p h => by rw [hm1 j (hlt h)]; exact hE.m _ _ h, fun j c h => ?_, ⟨fun i n h => ?_, fun i l h => by rw [hE1]; exact h⟩, fun i v h => ?_, fun j h => ⟨none, by rw [hm1 j (hlt h)]; exact (hH j h).1, fun p e => by cases e⟩⟩
    · rw [hE1]
      show (E2.caps.take st.nc)[j]? = _
      rw [List.getElem?_take, if_pos (by rw [← hS.c_eq]; exact (List.getElem?_eq_some_iff.1 h).1)]; exact hE.caps _ _ h
    · rw [hE1]
      have h : E.z[i]? = some n := h
      show (E.z ++ gz)[i]? = _
      rw [List.getElem?_append_left (List.getElem?_eq_some_iff.1 h).1]; exact h
    · rw [hE1]
      show (E.o ++ od)[i]? = _
      rw [List.getElem?_append_left (List.getElem?_eq_some_iff.1 h).1]; exact h
  have hz : ∀ (j : Nat) (n : Int), gz[j]? = some n → E1.z[st.x.nz + j]? = some n := fun j n hj => by
    rw [hE1]
    show (E.z ++ gz)[st.x.nz + j]? = _
    rw [← hS.z_eq, List.getElem?_append_right (by omega)]
    rw [show E.z.length + j - E.z.length = j by omega]; exact hj
  have hnew := newVs_den (E' := E1) (i := st.x.nz) hks hz
  have hkl := hks.len
  have hnl : (newVs st.x.nz ks).length = gz.length := by rw [← denL_length hnew]; exact hkl.2
  obtain ⟨hcl, hcr⟩ := readLs_spec hcs2
  have hxl := denL_length hxs2
  rw [List.length_append, List.length_map] at hxl
  -- the cells' new words
  have cellv : ∀ c v, (c, v) ∈ uc → ∃ j : Nat, ls[j]? = some c ∧ (newVs st.x.nz ks)[slots.length + j]? = some v ∧ ∃ u x b p, cs2[j]? = some u ∧ st2.heap.get c.1 = some b ∧ b.cell c.2 = some u ∧ u.den E2 = some x ∧ v.den E1 = some x ∧ E.m[c.1]? = some (some p) := by
    intro c v hc
    rw [huc] at hc
    obtain ⟨j, hj1, hj2⟩ := zip_mem hc
    rw [List.getElem?_drop] at hj2
    have hjl : j < cs2.length := by have := (List.getElem?_eq_some_iff.1 hj1).1; omega
    obtain ⟨b, hb, hv⟩ := hcr j c cs2[j] hj1 (by simp [hjl])
    obtain ⟨x, hx1, hx2⟩ := denL_get hnew hj2
    obtain ⟨y, hy1, hy2⟩ := denL_get hxs2 (i := slots.length + j) (v := cs2[j]) (by rw [List.getElem?_append_right (by simp)]; simp [hjl])
    rw [hx2] at hy2; cases hy2
    obtain ⟨p, hp⟩ := hpl c (List.mem_of_getElem? hj1)
    exact ⟨j, hj1, hj2, cs2[j], x, b, p, by simp [hjl], hb, hv, hy1, hx1, hp⟩
  -- a block, before and now
  have blk : ∀ j b', (cellsSetF uc st.heap).get j = some b' → ∃ b b2 t, st.heap.get j = some b ∧ st2.heap.get j = some b2 ∧ b' = { b with cells := t } ∧ b' = { b2 with cells := t } ∧
      (∀ i, (∃ v, ((j, i), v) ∈ uc ∧ t.get i = some v) ∨ ((∀ v, ((j, i), v) ∉ uc) ∧ t.get i = b.cells.get i ∧ t.get i = b2.cells.get i)) ∧ ((∀ i v, ((j, i), v) ∉ uc) → t = b.cells) := by
    intro j b' hb'
    obtain ⟨g1, g2⟩ := cellsSetF_get uc st.heap j
    obtain ⟨f1, f2⟩ := cellsSetF_get uc st2.heap j
    cases hb : st.heap.get j with
    | none => rw [g1 hb] at hb'; cases hb'
    | some b =>
      have hjn := (hS.lt j b hb).1
      obtain ⟨t, h1, h2, h3⟩ := g2 b hb
      rw [h1] at hb'; cases hb'
      have hb2' := hheap j hjn
      rw [h1] at hb2'
      cases hb2 : st2.heap.get j with
      | none => rw [f1 hb2] at hb2'; cases hb2'
      | some b2 =>
        obtain ⟨t2, e1, e2, e3⟩ := f2 b2 hb2
        rw [e1] at hb2'
        have hbb := Option.some.inj hb2'
        have htt : t = t2 := by injection hbb
        subst htt
        refine ⟨b, b2, t, rfl, rfl, rfl, hbb, fun i => ?_, h3⟩
        rcases h2 i with ⟨v, q1, q2⟩ | ⟨q1, q2⟩
        · exact .inl ⟨v, q1, q2⟩
        · refine .inr ⟨q1, q2, ?_⟩
          rcases e2 i with ⟨v, r1, r2⟩ | ⟨r1, r2⟩
          · exact absurd r1 (q1 v)
          · exact r2
  have placed : ∀ (j : Nat) (p : Nat × Nat), E1.m[j]? = some (some p) → ∃ q, E.m[j]? = some (some q) := by
    intro j p hp
    obtain ⟨hj, h2⟩ := hm1' j _ hp
    cases hq : E.m[j]? with
    | none => rw [List.getElem?_eq_none_iff, hS.n_eq] at hq; omega
    | some q =>
      cases q with
      | none => rw [(hH j hq).1] at h2; cases h2
      | some q => exact ⟨q, rfl⟩
  have fam : ∀ b (hb : b.fam < st.n) (j : Nat), famOf (st.hav uc ks (st.x.nz + gz.length) (st.x.no + dead.length)) b j = famOf st2 b j := fun b hb j => by
    unfold famOf
    show (Option.rec [j] (fun l => l) (st.live.get b.fam) : List Nat) = _
    rw [hlive _ hb]
  have hnn : st.n ≤ st2.n := by
    rw [← hS.n_eq, ← hS2.n_eq]
    exact hE.len
  have hncc : st.nc ≤ st2.nc := by
    rw [← hS.c_eq, ← hS2.c_eq]
    rcases Nat.eq_zero_or_pos E.caps.length with e | e
    · omega
    · have hlt : E.caps.length - 1 < E.caps.length := by omega
      have := (List.getElem?_eq_some_iff.1 (hE.caps _ _ (List.getElem?_eq_getElem hlt))).1; omega
  rw [← hE1]
  refine ⟨hle, ?_, ?_, ?_⟩
  · refine ⟨?_, ?_, ?_, ?_, ?_, hS2.klt, hS2.kept, fun j p hp => hS2.ids j p (hm1' j _ hp).2, fun j b' hb' => ?_, fun j b' hb' => ?_, fun k1 k2 b1 b2 id1 sh1 id2 sh2 e1 e2 m1 m2 hf => ?_, fun f l hl => hS.livelt f l hl, fun j b' hb' j2 b2' hb2' hf => ?_, fun j o hj => ?_, fun k1 k2 o1 o2 p h1 h2 m1 m2 => ?_, fun j o hj => ?_, ?_, fun j b' p hb' hp => ?_, fun f l hl => ?_, hS.ext.mono hle⟩
    · rw [hE1]; show (E2.m.take st.n).length = st.n
      rw [List.length_take, hS2.n_eq]; omega
    · rw [hE1]; show (E2.caps.take st.nc).length = st.nc
      rw [List.length_take, hS2.c_eq]; omega
    · rw [hE1]; show (E.z ++ gz).length = st.x.nz + gz.length
      rw [List.length_append, hS.z_eq]
    · rw [hE1]; exact hS.a_eq
    · rw [hE1]; show (E.o ++ od).length = st.x.no + dead.length
      rw [List.length_append, hS.o_eq, hodl]
    · obtain ⟨b, b2, t, h1, h2, rfl, _⟩ := blk j b' hb'
      exact hS.lt j b h1
    · obtain ⟨b, b2, t, h1, h2, e1, e2, h3, h4⟩ := blk j b' hb'
      have hjn := (hS.lt j b h1).1
      rcases hS.blks j b h1 with h | ⟨id, sh, cs, el, fr, g1, g2, g3⟩
      · left
        have ht : t = b.cells := h4 fun i v hv => by
          obtain ⟨_, _, _, _, _, _, p, _, _, _, _, _, q⟩ := cellv _ _ hv
          rw [h.1] at q; cases q
        subst ht
        rw [e1]
        exact ⟨by rw [hm1 j hjn]; exact (hH j h.1).1, h.2.1, fun i v hv => (h.2.2 i v hv).mono hle⟩
      · right
        rcases hS2.blks j b2 h2 with h | ⟨id', sh', cs', el', fr', g1', g2', g3'⟩
        · rw [hE.m _ _ g1] at h; cases h.1
        · rw [hE.m _ _ g1] at g1'; cases g1'
          have hbb : ({ b with cells := t } : Blk) = { b2 with cells := t } := by rw [← e1, e2]
          have hsz : b.sz = b2.sz := by injection hbb
          have hzz : b.z = b2.z := by injection hbb
          have hzn : b.zn = b2.zn := by injection hbb
          have hcv : b.cv = b2.cv := by injection hbb
          have hes : b.es = b2.es := by injection hbb
          refine ⟨id, sh, cs', el', fr', by rw [hm1 j hjn]; exact hE.m _ _ g1, g2', ?_⟩
          rw [e1]
          refine ⟨g3'.free, by show b.sz + sh ≤ _; rw [hsz]; exact g3'.room, fun i v hv => ?_, fun i hi => ?_, fun i v hv => ?_⟩
          · have hv : t.get i = some v := hv
            show i < b.sz
            rcases h3 i with ⟨u, q1, q2⟩ | ⟨q1, q2, q3⟩
            · obtain ⟨_, _, _, u', x, bb, p, _, d1, d2, d3, d4, d5⟩ := cellv _ _ q1
              simp only at d1 d2
              rw [h2] at d1; cases d1
              rw [cell_eq] at d2
              cases hc : b2.cells.get i with
              | some y => rw [hsz]; exact g3'.bnd i y hc
              | none =>
                rw [hc] at d2
                simp only at d2
                by_cases c : i < b2.sz
                · rw [hsz]; exact c
                · rw [if_neg c] at d2; cases d2
            · rw [q2] at hv; exact g3.bnd i v hv
          · have hi : b.cv = i + 1 := hi
            obtain ⟨c, c1, c2, c3⟩ := g3.cap i hi
            obtain ⟨c', c1', c2', c3'⟩ := g3'.cap i (by rw [← hcv]; exact hi)
            rw [hE.caps _ _ c1] at c1'; cases c1'
            exact ⟨c, hle.caps _ _ c1, by show c * b.es + sh ≤ _; rw [hes]; exact c2', c3⟩
          · rw [cell_eq] at hv
            have hv : (match t.get i with | some v => some v | none => if i < b.sz then (match b.zn with | 0 => none | j + 1 => b.z[i % (j + 1)]?) else none) = some v := hv
            rcases h3 i with ⟨u, q1, q2⟩ | ⟨q1, q2, q3⟩
            · rw [q2] at hv; cases hv
              obtain ⟨_, _, _, u', x, bb, p, _, d1, d2, d3, d4, d5⟩ := cellv _ _ q1
              simp only at d1 d2 d4
              rw [h2] at d1; cases d1
              obtain ⟨y, f1, f2⟩ := g3'.cells i u' d2
              rw [d3] at f1; cases f1
              exact ⟨x, d4, f2⟩
            · have hvb : b.cell i = some v := by rw [cell_eq, ← q2]; exact hv
              have hvb2 : b2.cell i = some v := by rw [cell_eq, ← q3, ← hsz, ← hzz, ← hzn]; exact hv
              obtain ⟨x, f1, _⟩ := g3.cells i v hvb
              obtain ⟨y, f3, f4⟩ := g3'.cells i v hvb2
              exact ⟨y, den_det hE hle f1 f3, f4⟩
    · obtain ⟨c1, d1, t1, f1, f2, rfl, f4, _⟩ := blk k1 b1 e1
      obtain ⟨c2, d2, t2, f5, f6, rfl, f8, _⟩ := blk k2 b2 e2
      have hf1 : c1.fam = d1.fam := by injection f4
      have hf2 : c2.fam = d2.fam := by injection f8
      exact hS2.fams k1 k2 d1 d2 id1 sh1 id2 sh2 f2 f6 (hm1' _ _ m1).2 (hm1' _ _ m2).2 (by rw [← hf1, ← hf2]; exact hf)
    · obtain ⟨c1, d1, t1, f1, f2, rfl, f4, _⟩ := blk j b' hb'
      obtain ⟨c2, d2, t2, f5, f6, rfl, f8, _⟩ := blk j2 b2' hb2'
      exact hS.lives j c1 f1 j2 c2 f5 hf
    · have hj : st.x.objs.get j = some o := hj
      obtain ⟨h1, h2⟩ := hS.objs j o hj
      refine ⟨h1, ?_⟩
      rcases h2 with h2 | ⟨id, ob, g1, g2, g3⟩
      · exact .inl (by rw [hm1 j h1]; exact (hH j h2).1)
      · right
        obtain ⟨_, h3⟩ := hS2.objs j o (by rw [← hobjs j h1]; exact hj)
        rcases h3 with h3 | ⟨id', ob', g1', g2', g3'⟩
        · rw [hE.m _ _ g1] at h3; cases h3
        · exact ⟨id', ob', by rw [hm1 j h1]; exact g1', g2', ob_det hE hle g3 g3'⟩
    · have l1 := (hS.objs k1 o1 h1).1
      have l2 := (hS.objs k2 o2 h2).1
      exact hS2.oinj k1 k2 o1 o2 p (by rw [← hobjs k1 l1]; exact h1) (by rw [← hobjs k2 l2]; exact h2) (hm1' _ _ m1).2 (hm1' _ _ m2).2
    · exact (cellsSetF_get uc st.heap j).1 (hS.apart j o hj)
    · show FOK E1.va (rngs st.x.nz ks ++ st.x.facts)
      intro c hc
      rcases List.mem_append.1 hc with hc | hc
      · exact rngs_ok (ρ := E1.va) hks hz c hc
      · exact hS.facts.mono hle.va c hc
    · obtain ⟨c1, d1, t1, f1, f2, rfl, f4, _⟩ := blk j b' hb'
      obtain ⟨q, hq⟩ := placed j p hp
      obtain ⟨q', hq'⟩ := hS.famh j c1 q f1 hq
      exact ⟨q', hle.m _ _ hq'⟩
    · obtain ⟨⟨q, hq⟩, h2⟩ := hS.liveh f l hl
      exact ⟨⟨q, hle.m _ _ hq⟩, fun j hj => let ⟨q, hq⟩ := h2 j hj; ⟨q, hle.m _ _ hq⟩⟩
  · refine ⟨hT2.size, dfr_det hE hle hT.defers hT2.defers, ⟨fun t => ?_⟩⟩
    rcases setAllF_slot ups tm t with ⟨v, q1, q2⟩ | ⟨q1, q2⟩
    · rw [q2]
      rw [hups] at q1
      rcases List.mem_append.1 q1 with q1 | q1
      · obtain ⟨j, hj1, hj2⟩ := zip_mem q1
        obtain ⟨x, hx1, hx2⟩ := denL_get hnew hj2
        have hjl : j < slots.length := (List.getElem?_eq_some_iff.1 hj1).1
        obtain ⟨y, hy1, hy2⟩ := denL_get hxs2 (i := j) (v := slot tm2 (pth t)) (by rw [List.getElem?_append_left (by simpa using hjl)]; simp [hj1])
        rw [hx2] at hy2; cases hy2
        obtain ⟨z, hz1, hz2⟩ := hT2.rel.slots t
        rw [hy1] at hz1; cases hz1
        exact ⟨x, hx1, hz2⟩
      · obtain ⟨j, hj1, rfl⟩ := deads_mem q1
        refine ⟨a2.tmps.getD t undef, ?_, rfl⟩
        show E1.o[st.x.no + j]? = _
        rw [hE1]
        show (E.o ++ od)[st.x.no + j]? = _
        rw [← hS.o_eq, List.getElem?_append_right (by omega), show E.o.length + j - E.o.length = j by omega, ← hod]
        simp only [List.getElem?_map, hj1, Option.map_some]
    · have h2 := htm t
      rw [q2] at h2
      rcases setAllF_slot ups tm2 t with ⟨v, r1, r2⟩ | ⟨r1, r2⟩
      · exact absurd r1 (q1 v)
      · rw [r2] at h2
        obtain ⟨x, hx1, _⟩ := hT.rel.slots t
        obtain ⟨y, hy1, hy2⟩ := hT2.rel.slots t
        rw [← h2] at hy1
        exact ⟨y, by rw [q2]; exact den_det hE hle hx1 hy1, hy2⟩
  · intro j hj
    refine ⟨by rw [hm1 j (hlt hj)]; exact (hH j hj).1, ?_, rfl, rfl⟩
    show (cellsSetF uc st.heap).get j = st.heap.get j
    obtain ⟨g1, g2⟩ := cellsSetF_get uc st.heap j
    cases hb : st.heap.get j with
    | none => exact g1 hb
    | some b =>
      obtain ⟨t, h1, h2, h3⟩ := g2 b hb
      have ht : t = b.cells := h3 fun i v hv => by
        obtain ⟨_, _, _, _, _, _, p, _, _, _, _, _, q⟩ := cellv _ _ hv
        simp only at q
        rw [hj] at q; cases q
      rw [h1, ht]
end
end Go.Sy
/-! A loop by what always holds; the evaluator's conditions suffice. -/
namespace Go.Sy
theorem trSame_eq {α : Type} {f : α → α → Bool} (hf : ∀ a b, f a b = true → a = b) : ∀ {t u : Tr α}, trSame f t u = true → t = u := by
  intro t
  induction t with
  | nil => intro u h; cases u with
    | nil => rfl
    | node v l r => cases h
  | node v l r ih1 ih2 =>
    intro u h
    cases u with
    | nil => cases v <;> cases h
    | node v' l' r' =>
      cases v <;> cases v' <;> simp only [trSame, Bool.and_eq_true] at h <;> first | (cases h; done) | skip
      · rw [ih1 h.1, ih2 h.2]
      · rw [hf _ _ h.1, ih1 h.2.1, ih2 h.2.2]
theorem sameL_eq {a b : List AV} (h : sameL a b = true) : a = b := same_both.2 a b h
theorem leqL_iff {a b : List Nat} (h : leqL a b = true) : a = b := by rw [leqL_eq, decide_eq_true_eq] at h; exact h
theorem blkSame_eq {a b : Option Blk} (h : blkSame a b = true) : a = b := by
  cases a with
  | none => cases b with
    | none => rfl
    | some b => cases h
  | some a => cases b with
    | none => cases h
    | some b =>
      obtain ⟨sz, t, z, zn, fam, cv, es⟩ := a
      obtain ⟨sz', t', z', zn', fam', cv', es'⟩ := b
      simp only [blkSame, Bool.and_eq_true, beq_iff, decide_eq_true_eq] at h
      obtain ⟨h1, h2, h3, h4, h5, h6, h7⟩ := h
      rw [h1, h2, h3, h4, h5, sameL_eq h6, trSame_eq same_eq h7]
theorem entSame_eq : ∀ {a b : List (AV × AV × Nat)}, entSame a b = true → a = b
  | [], [], _ => rfl
  | (a1, a2, a3) :: l, (b1, b2, b3) :: m, h => by
    simp only [entSame, Bool.and_eq_true, beq_iff, decide_eq_true_eq] at h
    rw [same_eq _ _ h.1, same_eq _ _ h.2.1, h.2.2.1, entSame_eq h.2.2.2]
  | [], _ :: _, h => by cases h
  | _ :: _, [], h => by cases h
theorem obSame_eq {a b : Option Ob} (h : obSame a b = true) : a = b := by
  unfold obSame at h
  split at h
  · rfl
  · simp only [Bool.and_eq_true, beq_iff, decide_eq_true_eq] at h
    rw [entSame_eq h.1, h.2]
  · rw [bbeq_eq, decide_eq_true_eq] at h; rw [h]
  · simp only [Bool.and_eq_true, beq_iff, decide_eq_true_eq] at h
    rw [h.1, leqL_iff h.2.1, h.2.2]
  · simp only [Bool.and_eq_true, beq_iff, decide_eq_true_eq] at h
    rw [sameO_eq h.1, h.2.1, leqL_iff h.2.2.1, h.2.2.2]
  · cases h
theorem livSame_eq {a b : Option (List Nat)} (h : livSame a b = true) : a = b := by
  unfold livSame at h
  split at h
  · rfl
  · rw [leqL_iff h]
  · cases h
theorem allLt_all {f : Nat → Bool} : ∀ {n : Nat}, allLt f n = true → ∀ j, j < n → f j = true
  | 0, _, j, hj => absurd hj (Nat.not_lt_zero _)
  | n + 1, h, j, hj => by
    have h : (f n && allLt f n) = true := h
    rw [Bool.and_eq_true] at h
    by_cases e : j = n
    · rw [e]; exact h.1
    · exact allLt_all h.2 j (by omega)
theorem sameSt_spec {st st2 : St} {h2 : Tr Blk} (h : sameSt st st2 h2 = true) : ∀ j, j < st.n → st.heap.get j = h2.get j ∧ st.x.objs.get j = st2.x.objs.get j ∧ st.live.get j = st2.live.get j := by
  intro j hj
  have := allLt_all h j hj
  simp only [Bool.and_eq_true] at this
  exact ⟨blkSame_eq this.1, obSame_eq this.2.1, livSame_eq this.2.2⟩
theorem sameKs_eq : ∀ {a b : List (Option IntKind)}, sameKs a b = true → a = b
  | [], [], _ => rfl
  | none :: l, none :: m, h => by rw [sameKs_eq (a := l) (b := m) h]
  | some a :: l, some b :: m, h => by
    simp only [sameKs, Bool.and_eq_true] at h
    rw [kbeq_eq h.1, sameKs_eq h.2]
  | [], _ :: _, h => by cases h
  | _ :: _, [], h => by simp [sameKs] at h
  | none :: _, some _ :: _, h => by cases h
  | some _ :: _, none :: _, h => by cases h

section
variable {X : Tabs} {K : Nat → Prop} {w0 : World} {E : Env} {st : St} {w : World} {Θ : Pred} {R : List Back} {tm : Tm} {rec : Rec} {N : Nat} {ds : List Nat} {a : Act} {k : Res → VC} {rd r : Option Nat} {fid : FuncId}

theorem withF_n (st : St) (f : List T) : (st.withF f).n = st.n := by obtain ⟨n, nc, h, l, o, s, g, nz, na, no, lv⟩ := st; rfl
theorem facts_withF {E : Env} {st : St} {f : List T} (h : FOK E.va f) : FOK E.va (st.withF f).x.facts := by
  have := withF_facts st f; unfold St.facts at this; rw [this]; exact h
theorem asC_eq (l : List T) : asC l = l.map Asm.c := mapLL_eq _ _
/-- How far a row's measure is from nought. -/
noncomputable def mval (m : T) (d : List D) : Nat := match m.ev ⟨d.map D.toI, []⟩ with
  | some (.i b) => b.toNat
  | _ => 0
theorem invLoop_ok (hr : RecOK X K w0 Θ rec) {c : BC} {cd : Code} {slots dead : List Nat} {cells : List (Nat × Nat × Nat)} {p : Nat} {args : Tm → St → List T} {meas : T} (hrel : CRel X fid c cd) (hN : okCode N cd = true) (hrd : RdRel E rd r) (hS : StRel X K w0 E st w) (hT : TmRel E tm ds a N)
    (h : (invLoop rec c slots cells dead p args meas tm ds rd st k).holds Θ E.va R) : BodyLoop (FW r) X.P cd (CodeOut X K w0 Θ R E st N k) a w := by
  obtain ⟨ls, hls, h⟩ := vbind_inv h
  obtain ⟨cs, hcs, h⟩ := vbind_inv h
  have hpl := locsOf_placed hT.rel hls
  obtain ⟨cx, hcx⟩ := readLs_den hS hcs hpl
  rw [mapLL_eq, appL_eq] at h
  obtain ⟨ks, ts, zs, f, hf, h, hts, htl, hks⟩ := kdsK_inv h hS.facts (denL_append (slots_den hT.rel slots) hcx)
  rw [forceF_eq] at h
  obtain ⟨st1, hst1⟩ : ∃ st1, st1 = st.withF f := ⟨_, rfl⟩
  rw [← hst1] at h
  have hS1 : StRel X K w0 E st1 w := by rw [hst1]; exact hS.withF hf
  have hH1 : HP E E st st1 := by rw [hst1]; exact hp_withF E st f
  have hcs1 : readLs st1 ls = some cs := by
    have : ∀ l, readLs (st.withF f) l = readLs st l := fun l => by
      induction l with
      | nil => rfl
      | cons c l ih => simp only [readLs, withF_heap, ih]
    rw [hst1, this]; exact hcs
  generalize har : args tm st1 = ar at h
  obtain ⟨n0, nc, hp, lv, o, s, fx, nz, na, no, nm⟩ := st1
  obtain ⟨hm, h⟩ := h
  have hm := hm _ (List.mem_singleton_self _)
  obtain ⟨d0, hd0, hΘ⟩ := hm
  rw [appL_eq] at hd0
  obtain ⟨dz, da, hdz, hda, rfl⟩ := evL_split hd0
  rw [hts] at hdz; cases hdz
  have htlen : lenL ts = zs.length := by rw [lenL_eq, htl]
  have hkz : ks.length = zs.length := hks.len.1
  simp only [natK_eq, setAll_eq, cellsSet_eq, forceF_eq, appL_eq, zipP_eq, dropL_eq, lenL_eq] at h
  rw [htl] at h
  generalize hups : (slots.zip (newVs nz ks) ++ deads no dead) = ups at h
  generalize huc : (ls.zip ((newVs nz ks).drop slots.length)) = uc at h
  -- the claim, by the measure
  have claim : ∀ (M : Nat) (gz : List Int) (E1 : Env) (w1 : World) (a1 : Act), mval meas (gz.map .i ++ da) = M → gz.length = zs.length → Θ p (gz.map .i ++ da) → (∃ xs, KR ks gz xs) → E1.z = E.z ++ gz → E1.a = E.a → E.Le E1 →
      StRel X K w0 E1 ((⟨n0, nc, hp, lv, o, s, fx, nz, na, no, nm⟩ : St).hav uc ks (nz + zs.length) (no + dead.length)) w1 → TmRel E1 (setAllF ups tm) ds a1 N → HP E E1 st ((⟨n0, nc, hp, lv, o, s, fx, nz, na, no, nm⟩ : St).hav uc ks (nz + zs.length) (no + dead.length)) →
      BodyLoop (FW r) X.P cd (CodeOut X K w0 Θ R E st N k) a1 w1 := by
    intro M
    induction M using Nat.strongRecOn with
    | _ M ihM =>
      intro gz E1 w1 a1 hM hgl hΘ1 hKR hz1 ha1 hle1 hSt1 hTm1 hHP1
      have hva : E1.va = E.va.add gz [] := by rw [Va.add_nil]; show (⟨E1.z, E1.a⟩ : Va) = _; rw [hz1, ha1]; rfl
      obtain ⟨gx, hgx⟩ := hKR
      have hzl : E.z.length = nz := hS1.z_eq
      have hzat : ∀ (j : Nat) (n : Int), gz[j]? = some n → E1.z[nz + j]? = some n := fun j n hj => by
        rw [hz1, ← hzl, List.getElem?_append_right (by omega), show E.z.length + j - E.z.length = j by omega]; exact hj
      have hzv : evL E1.va (zvs nz zs.length ++ ar) = some (gz.map .i ++ da) := by
        rw [← hgl]
        exact evL_append (zvs_ev (ρ := E1.va) hzat) (evL_mono hle1.va hda)
      have hb := h gz [] hgl rfl (by
        intro x hx
        rw [← hva]
        rcases List.mem_append.1 hx with hx | hx
        · rw [asC_eq] at hx
          obtain ⟨t, ht, rfl⟩ := List.mem_map.1 hx
          exact rngs_ok (ρ := E1.va) hgx hzat t ht
        · rw [List.mem_singleton.1 hx]
          exact ⟨_, hzv, hΘ1⟩)
      rw [← hva] at hb
      refine bodyLoop_of_wp (wpIn_mono (hr.code (f := fid) hrel hN (hrd.mono hle1) hSt1 hTm1 hb) fun e a' w' hq => ?_)
      obtain ⟨ex, tm2, ds2, st2, E2, R2, rfl, g1, g2, g3, g4, g5, g6⟩ := hq
      cases ex with
      | exit i => exact ⟨.exit i, tm2, ds2, st2, E2, R2, rfl, g1, g2, hle1.trans g3, g4, hHP1.trans g5, g6⟩
      | goto i => exact ⟨.goto i, tm2, ds2, st2, E2, R2, rfl, g1, g2, hle1.trans g3, g4, hHP1.trans g5, g6⟩
      | ret => exact ⟨.ret, tm2, ds2, st2, E2, R2, rfl, g1, g2, hle1.trans g3, g4, hHP1.trans g5, g6⟩
      | normal =>
        obtain ⟨hds, g7⟩ := vif_inv g2
        have hds := leqL_iff hds
        subst hds
        obtain ⟨cs2, hcs2, g8⟩ := vbind_inv g7
        have hpl2 : ∀ c ∈ ls, ∃ q, E2.m[c.1]? = some (some q) := fun c hc => let ⟨q, hq⟩ := hpl c hc; ⟨q, (hle1.trans g3).m _ _ hq⟩
        obtain ⟨xs2, hxs2⟩ := readLs_den g4 hcs2 hpl2
        rw [mapLL_eq, appL_eq] at g8
        have hden2 := denL_append (slots_den g6.rel slots) hxs2
        obtain ⟨ks2, ts2, gz2, f2, hf2, g9, hts2, htl2, hks2⟩ := kdsK_inv g8 g4.facts hden2
        obtain ⟨hkk, g10⟩ := vif_inv g9
        have hkk := sameKs_eq hkk
        subst hkk
        rw [setAll_eq] at g10
        obtain ⟨htr, g11⟩ := vif_inv g10
        have htr := trSame_eq same_eq htr
        rw [cellsSet_eq] at g11
        obtain ⟨hst, g12⟩ := vif_inv g11
        have hst := sameSt_spec hst
        have hgl2 : gz2.length = zs.length := by rw [← hks2.len.1, hkz]
        have m1 := g12 (.p p (appL ts2 ar)) (by simp)
        have m2 := g12 (.lt meas (appL ts2 ar) (zvs nz zs.length ++ ar)) (by simp [appL_eq])
        obtain ⟨d1, hd1, hΘ2⟩ := m1
        rw [appL_eq] at hd1
        have hle2 := hle1.trans g3
        have hev2 : evL E2.va (ts2 ++ ar) = some (gz2.map .i ++ da) := evL_append hts2 (evL_mono hle2.va hda)
        rw [hev2] at hd1; cases hd1
        obtain ⟨dx, dy, av, bv, q1, q2, q3, q4, q5, q6⟩ := m2
        rw [appL_eq, hev2] at q1; cases q1
        rw [evL_mono g3.va hzv] at q2; cases q2
        have hlt : mval meas (gz2.map .i ++ da) < mval meas (gz.map .i ++ da) := by
          unfold mval
          rw [q3, q4]
          simp only
          omega
        have hre := rehavoc (w2 := w') (a2 := a') (slots := slots) (dead := dead) (ups := ups) (uc := uc) hS1 hT hpl hle2 g4 g6 (fun j hj => by
            obtain ⟨e1, e2, e3, e4⟩ := hHP1.trans g5 j hj
            obtain ⟨_, f2, f3, f4⟩ := hH1 j hj
            exact ⟨e1, e2.trans f2.symm, e3.trans f3.symm, e4.trans f4.symm⟩) hcs2 hks2 hden2 hups.symm huc.symm (fun t => by rw [htr])
          (fun j hj => by have := (hst j hj).1; rw [withF_heap] at this; exact this) (fun j hj => by have := (hst j hj).2.1; rw [withF_objs] at this; exact this) (fun j hj => by have := (hst j hj).2.2; rw [withF_live] at this; exact this)
        obtain ⟨r1, r2, r3, r4⟩ := hre
        exact ihM _ (by rw [← hM]; exact hlt) gz2 (E.hav E2 n0 nc gz2 (dead.map fun t => a'.tmps.getD t undef)) w' a' rfl hgl2 hΘ2 ⟨_, hks2⟩ rfl rfl r1 (by rw [hgl2] at r2; exact r2) r3 (by
          rw [hgl2] at r4
          exact hH1.trans r4)
  have hre := rehavoc (w2 := w) (a2 := a) (tm2 := tm) (slots := slots) (dead := dead) (ups := ups) (uc := uc) hS1 hT hpl (.refl E) hS1 hT (.refl E _) hcs1 hks (denL_append (slots_den hT.rel slots) hcx) hups.symm huc.symm (fun _ => rfl) (fun _ _ => rfl) (fun _ _ => rfl) (fun _ _ => rfl)
  obtain ⟨r1, r2, r3, r4⟩ := hre
  refine claim _ zs _ w a rfl rfl hΘ ⟨_, hks⟩ ?_ ?_ r1 r2 r3 (hH1.trans r4) <;> rfl
theorem plainLoop_ok (hr : RecOK X K w0 Θ rec) {c : BC} {an : Option Nat} {cd : Code} (hrel : CRel X fid c cd) (hN : okCode N cd = true) (hrd : RdRel E rd r) (hS : StRel X K w0 E st w) (hT : TmRel E tm ds a N)
    (h : (plainLoop rec an c tm ds rd st k).holds Θ E.va R) : BodyLoop (FW r) X.P cd (CodeOut X K w0 Θ R E st N k) a w := by
  refine bodyLoop_of_wp (wpIn_mono (hr.code (f := fid) hrel hN hrd hS hT h) fun e a' w' hq => ?_)
  obtain ⟨ex, tm', ds', st', E', R', rfl, g1, g2, g3, g4, g5, g6⟩ := hq
  cases ex with
  | normal =>
    have g2 : (rec (.loop an c tm' ds' rd) st' k).holds Θ E'.va R' := g2
    have hb := hr.loop (f := fid) hrel hN (hrd.mono g3) g4 g6 g2
    exact fun b kk cs hro hbf hrm => let ⟨e, a', w', q, rr⟩ := hb b kk cs hro hbf hrm; ⟨e, a', w', q.trans g1 g3 g5, rr⟩
  | exit i => exact ⟨.exit i, tm', ds', st', E', R', rfl, g1, g2, g3, g4, g5, g6⟩
  | goto i => exact ⟨.goto i, tm', ds', st', E', R', rfl, g1, g2, g3, g4, g5, g6⟩
  | ret => exact ⟨.ret, tm', ds', st', E', R', rfl, g1, g2, g3, g4, g5, g6⟩
theorem loop_ok (hr : RecOK X K w0 Θ rec) {c : BC} {an : Option Nat} {cd : Code} (hrel : CRel X fid c cd) (hN : okCode N cd = true) (hrd : RdRel E rd r) (hS : StRel X K w0 E st w) (hT : TmRel E tm ds a N)
    (h : (stLoop X.cx rec an c tm ds rd st k).holds Θ E.va R) : BodyLoop (FW r) X.P cd (CodeOut X K w0 Θ R E st N k) a w := by
  unfold stLoop at h
  cases an with
  | none => exact plainLoop_ok hr hrel hN hrd hS hT h
  | some key =>
    cases hk : X.cx.ls.get key with
    | none =>
      simp only [hk] at h
      exact plainLoop_ok hr hrel hN hrd hS hT h
    | some s =>
      simp only [hk] at h
      cases s with
      | nm slots cells =>
        obtain ⟨tm', st', E', g1, g2, g3, g4, g5⟩ := nmLoop_ok hS hT h
        have hb := plainLoop_ok hr hrel hN (hrd.mono g1) g2 g4 g5
        exact fun b kk cs hro hbf hrm => let ⟨e, a', w', q, rr⟩ := hb b kk cs hro hbf hrm; ⟨e, a', w', q.trans List.prefix_rfl g1 g3, rr⟩
      | inv slots cells dead p args meas => exact invLoop_ok hr hrel hN hrd hS hT h
theorem run_ok (hc : CxOK X K w0) (hf : FnsOK X K w0 Θ) : ∀ n, RecOK X K w0 Θ (run X.cx n)
  | 0 => ⟨fun _ _ _ _ _ h => h.elim, fun _ _ _ _ _ h => h.elim, fun _ _ h => h.elim, fun _ _ _ h => h.elim⟩
  | n + 1 => by
    have hr := run_ok hc hf n
    exact ⟨fun hrel hN hrd hS hT h => code_ok hc hf hr hrel hN hrd hS hT h, fun hrel hN hrd hS hT h => loop_ok hr hrel hN hrd hS hT h, fun hS hx h => call_ok hc hf hr hS hx h, fun hS hm hx h => round_ok hr hS hm hx h⟩
end
end Go.Sy
/-! A program's tables; closed calls. -/
namespace Go.Sy
open Go.RowKit (Below)
theorem trS_get {α β : Type} (f : Nat → α → Option β) (l : List α) : ∀ (i : Nat) (t : Tr β) (j : Nat), (trS f l i t).get j = if i ≤ j ∧ j < i + l.length then (match (l[j - i]?).bind (f j) with | some y => some y | none => t.get j) else t.get j := by
  induction l with
  | nil => intro i t j; show t.get j = _; rw [if_neg (by simp)]
  | cons x l ih =>
    intro i t j
    show (trS f l (Nat.succ i) (Option.rec t (fun y => t.set i (some y)) (f i x))).get j = _
    rw [ih]
    have e1 : Nat.succ i = i + 1 := rfl
    rw [e1]
    by_cases c : i + 1 ≤ j ∧ j < i + 1 + l.length
    · rw [if_pos c, if_pos (by simp; omega)]
      obtain ⟨d, rfl⟩ : ∃ d, j = i + 1 + d := ⟨j - (i + 1), by omega⟩
      have e2 : i + 1 + d - (i + 1) = d := by omega
      have e3 : i + 1 + d - i = d + 1 := by omega
      rw [e2, e3, List.getElem?_cons_succ]
      cases (l[d]?).bind (f (i + 1 + d)) with
      | some y => rfl
      | none =>
        simp only
        cases f i x with
        | none => rfl
        | some y => exact Tr.get_set_other _ _ (by omega)
    · rw [if_neg c]
      by_cases c2 : j = i
      · subst c2
        rw [if_pos (by simp)]
        simp only [Nat.sub_self, List.getElem?_cons_zero, Option.bind_some]
        cases f j x with
        | none => rfl
        | some y => exact Tr.get_set_same _ _ _
      · rw [if_neg (by simp; omega)]
        cases f i x with
        | none => rfl
        | some y => exact Tr.get_set_other _ _ (by omega)
theorem trS_some {α β : Type} {f : Nat → α → Option β} {l : List α} {j : Nat} {y : β} (h : (trS f l 0 .nil).get j = some y) : ∃ x, l[j]? = some x ∧ f j x = some y := by
  rw [trS_get] at h
  split at h
  · rw [Nat.sub_zero] at h
    cases hl : l[j]? with
    | none => rw [hl] at h; simp at h
    | some x =>
      rw [hl] at h
      simp only [Option.bind_some] at h
      cases hf : f j x with
      | none => rw [hf] at h; simp at h
      | some z => rw [hf] at h; cases h; exact ⟨x, rfl, hf⟩
  · simp at h
theorem trK_eq {α β γ : Type} (f : Nat → α → Option β) (l : List α) : ∀ (i : Nat) (t : Tr β) (k : Tr β → γ), trK f l i t k = k (trS f l i t) := by
  induction l with
  | nil => intro i t k; rfl
  | cons x l ih =>
    intro i t k
    show (Option.rec (natK (Nat.succ i) fun j => trK f l j t k) (fun y => t.setK i (some y) fun t => natK (Nat.succ i) fun j => trK f l j t k) (f i x) : γ) = k (trS f l (Nat.succ i) (Option.rec t (fun y => t.set i (some y)) (f i x)))
    cases f i x with
    | none => show natK _ _ = _; rw [natK_eq]; exact ih _ _ _
    | some y => show Tr.setK _ _ _ _ = _; rw [Tr.setK_eq, natK_eq]; exact ih _ _ _
theorem runX_eq (P : Program) (con : Tr Con) (glob : Tr (Tr AV)) (n : Nat) (t : Task) (K : Res → VC) (ls : Tr LSpec) (ro : Tr (Tr AV)) (st : St) : runX P con glob n t K ls ro st = run (cxWith P con glob ls ro) n t st K := by
  unfold runX cxWith
  rw [trK_eq, trK_eq, trK_eq, trK_eq, trK_eq]
section
variable {P : Program}
theorem info_of {t : Nat} {i : TypeInfo} (h : P.types[t]? = some i) : P.info? t = some i := by
  have hlt : t < P.types.size := (Array.getElem?_eq_some_iff.1 h).1
  show Tables.info? P.toTables t = some i
  unfold Tables.info?
  rw [if_pos hlt]; exact h
noncomputable def tabs (P : Program) (hm : P.follows .mixedOrders = true) (con : Tr Con) (glob : Tr (Tr AV)) (ls : Tr LSpec := .nil) (ro : Tr (Tr AV) := .nil) : Tabs := ⟨P, cxWith P con glob ls ro, hm⟩
/-- What the package's variables hold. -/
def GlobOK (glob : Tr (Tr AV)) (w0 : World) : Prop := ∀ g t, glob.get g = some t → g < w0.heap.size ∧ ∀ i v, t.get i = some v → ∃ x, (∀ E, AV.den E v = some x) ∧ w0.cell? ⟨g, i, none⟩ = some x
theorem globOK_nil (w0 : World) : GlobOK .nil w0 := fun g t h => by simp at h
theorem cxOf_ok (P : Program) (hm : P.follows .mixedOrders = true) (con : Tr Con) {glob : Tr (Tr AV)} {ls : Tr LSpec} {ro : Tr (Tr AV)} {w0 : World} (hg : GlobOK glob w0) : CxOK (tabs P hm con glob ls ro) (· < w0.heap.size) w0 := by
  have hl : ∀ {t : Nat} {i : TypeInfo}, P.types.toList[t]? = some i → P.types[t]? = some i := fun h => by simpa using h
  refine ⟨fun t m h => ?_, fun t d h => ?_, fun t n h => ?_, fun t z h => ?_, fun t fs h f hf => ?_, fun g t h => ?_⟩
  · obtain ⟨i, hi, h⟩ := trS_some h
    obtain ⟨hb, h⟩ := bif_some h
    cases h
    simp only [Bool.and_eq_true, Bool.not_eq_true'] at hb
    exact ⟨hb.1, hb.2.1, by omega, hb.2.2⟩
  · obtain ⟨i, hi, h⟩ := trS_some h
    obtain ⟨d', hd, h⟩ := obind_inv h
    obtain ⟨_, h⟩ := bif_some h
    cases h
    have hi' := info_of (hl hi)
    show Program.underlying P t = some d
    unfold Program.underlying
    rw [hi']
    unfold descOf at hd
    obtain ⟨sz, dd, b, zz, rest⟩ := i
    split at hd
    · rename_i hn
      cases hu : P.types[‹TypeId›]? with
      | none => simp only [hu] at hd; cases hd
      | some k =>
        simp only [hu, Option.map_some, Option.some.injEq] at hd
        simp_all [info_of hu]
    · simp_all
  · have h : (trS (fun _ (i : TypeInfo) => some i.size) P.types.toList 0 .nil).get t = some n := h
    obtain ⟨i, hi, h⟩ := trS_some h
    cases h
    exact ⟨i, info_of (hl hi), rfl⟩
  · obtain ⟨i, hi, h⟩ := trS_some h
    obtain ⟨v, hv, h⟩ := obind_inv h
    obtain ⟨d, hd, h⟩ := obind_inv h
    obtain ⟨hag, h⟩ := bif_some h
    obtain ⟨z', hz', h⟩ := obind_inv h
    obtain ⟨hb, h⟩ := bif_some h
    cases h
    simp only [Bool.and_eq_true, ble_iff, beq_iff, decide_eq_true_eq, lenL_eq] at hb
    rw [bbeq_eq, decide_eq_true_eq] at hag
    refine ⟨i, v, info_of (hl hi), hv, hb.1, hb.2, fun E => denL_ofCells hz', fun d' hd' => ?_⟩
    obtain ⟨i', hi', h'⟩ := trS_some hd'
    rw [hi] at hi'; cases hi'
    obtain ⟨d'', hd'', h'⟩ := obind_inv h'
    obtain ⟨_, h'⟩ := bif_some h'
    cases h'
    rw [hd] at hd''; cases hd''
    exact hag
  · obtain ⟨i, hi, h⟩ := trS_some h
    obtain ⟨d', hd, h⟩ := obind_inv h
    obtain ⟨hb, h⟩ := bif_some h
    cases h
    simp only [fieldsIn, List.all_eq_true] at hb
    have := hb f hf
    rw [Nat.blt_eq] at this
    exact ⟨_, info_of (Array.getElem?_eq_getElem this)⟩
  · exact hg g t h
theorem st0_rel {X : Tabs} (hro : X.cx.ro = .nil) (w0 : World) : StRel X (· < w0.heap.size) w0 ⟨[], [], [], [], []⟩ st0 w0 :=
  ⟨rfl, rfl, rfl, rfl, rfl, fun _ h => h, .refl _ _, fun k p h => by simp at h, fun k b h => by simp [st0] at h, fun k b h => by simp [st0] at h, fun k1 k2 b1 b2 id1 sh1 id2 sh2 h => by simp [st0] at h, fun f l h => by simp [st0] at h,
   fun k b h => by simp [st0] at h, fun k b h => by simp [st0] at h, fun k1 k2 o1 o2 p h => by simp [st0] at h, fun k o h => by simp [st0] at h, fun c hc => (by cases hc), fun k b p h => by simp [st0] at h, fun f l h => by simp [st0] at h, ⟨fun i t h => by simp [hro] at h, fun c hc => (by cases hc)⟩⟩
/-- What the contracts promise. -/
def ConOK (P : Program) (hm : P.follows .mixedOrders = true) (con : Tr Con) (glob : Tr (Tr AV)) (w0 : World) (Θ : Pred) (ls : Tr LSpec := .nil) (ro : Tr (Tr AV) := .nil) : Prop :=
  ∀ f c, con.get f = some c → ∀ {args : List AV} {st : St} {k : Kt} {E : Env} {R : List Back} {w : World} {xs : List Value}, StRel (tabs P hm con glob ls ro) (· < w0.heap.size) w0 E st w → denL E args = some xs → (c args st k).holds Θ E.va R →
    OpRes P (Out (tabs P hm con glob ls ro) (· < w0.heap.size) w0 Θ R E st k) ((callFunc f xs.toArray).run P w)
theorem conOK_nil {hm : P.follows .mixedOrders = true} {glob : Tr (Tr AV)} {w0 : World} {Θ : Pred} {ls : Tr LSpec} {ro : Tr (Tr AV)} : ConOK P hm .nil glob w0 Θ ls ro := fun f c h => by simp at h
theorem fns_get {con : Tr Con} {glob : Tr (Tr AV)} {ls : Tr LSpec} {ro : Tr (Tr AV)} {f : Nat} {fi : FnI} (h : (cxWith P con glob ls ro).fns.get f = some fi) : ∃ fn c, P.funcs[f]? = some fn ∧ fn.body = some c ∧ cRess (cxWith P con glob ls ro).und (cxWith P con glob ls ro).size fn.results.toList = some fi.results ∧
    cCode (cxWith P con glob ls ro).und (cxWith P con glob ls ro).size (cxWith P con glob ls ro).zero f c = fi.body ∧ (fn.name == "runtime.NumGoroutine") = false ∧ okCode fn.ntmps c = true := by
  obtain ⟨fn, hfn, h⟩ := trS_some h
  obtain ⟨c, hc, h⟩ := obind_inv h
  obtain ⟨hb, h⟩ := bif_some h
  obtain ⟨r, hr, h⟩ := obind_inv h
  cases h
  simp only [Bool.and_eq_true, Bool.not_eq_true'] at hb
  exact ⟨fn, c, by simpa using hfn, hc, hr, rfl, hb.2, hb.1⟩
theorem cxOf_fns {hm : P.follows .mixedOrders = true} {con : Tr Con} {glob : Tr (Tr AV)} {ls : Tr LSpec} {ro : Tr (Tr AV)} {w0 : World} {Θ : Pred} (h : ConOK P hm con glob w0 Θ ls ro) : FnsOK (tabs P hm con glob ls ro) (· < w0.heap.size) w0 Θ :=
  ⟨fun _ _ hf => fns_get hf, fun f c hf => h f c hf⟩
noncomputable def hasFn (P : Program) (f : Nat) : Bool := Option.rec false (fun fn => Option.rec false (fun _ => not (fn.name == "runtime.NumGoroutine")) fn.body) (P.funcs[f]?)
theorem hasFn_inv {f : Nat} (h : hasFn P f = true) : ∃ fn, P.funcs[f]? = some fn ∧ fn.body.isSome = true ∧ (fn.name == "runtime.NumGoroutine") = false := by
  unfold hasFn at h
  cases hp : P.funcs[f]? with
  | none => rw [hp] at h; cases h
  | some fn =>
    rw [hp] at h
    cases hb : fn.body with
    | none => simp only [hb] at h; cases h
    | some c => simp only [hb] at h; exact ⟨fn, rfl, by rw [hb]; rfl, by simpa using h⟩
abbrev E0 : Env := ⟨[], [], [], [], []⟩
/-- A call, in a state that is known in part. -/
theorem calls_of_runE {X : Tabs} {K : Nat → Prop} {w0 : World} {Θ : Pred} (hc : CxOK X K w0) (hf : FnsOK X K w0 Θ) {n f : Nat} {args : List AV} {k : Res → VC} {st : St} {E : Env} {R : List Back} {w : World} {xs : List Value} (hS : StRel X K w0 E st w) (hx : denL E args = some xs)
    (h : (run X.cx n (.call f args) st k).holds Θ E.va R) (hfn : hasFn X.P f = true) : Calls X.P f xs.toArray w fun e w' => ∃ v, e = .returned v ∧ OutV X K w0 Θ R E st k v w' := by
  have hr := (run_ok hc hf n).call hS hx h
  obtain ⟨fn, g1, g2, g3⟩ := hasFn_inv hfn
  rw [callFunc_enter (P := X.P) g1 g2 g3] at hr
  have hr : CallsIn (FW none) 0 X.P f xs.toArray w _ := hr
  refine (CallsIn.calls hr (FW_room none)).mono fun e w' he => ?_
  cases e with
  | returned v => exact ⟨v, rfl, he⟩
  | panicked c => exact he.elim
  | outgrown => exact he.elim
/-- A call, of nothing, whose condition holds. -/
theorem calls_of_run (hm : P.follows .mixedOrders = true) {con : Tr Con} {glob : Tr (Tr AV)} {ls : Tr LSpec} {Θ : Pred} {n f : Nat} {k : Res → VC} {w0 : World} (hg : GlobOK glob w0) (hcon : ConOK P hm con glob w0 Θ ls) (h : (runX P con glob n (.call f []) k ls).holds Θ E0.va []) (hfn : hasFn P f = true) :
    Calls P f #[] w0 fun e w' => ∃ v, e = .returned v ∧ OutV (tabs P hm con glob ls) (· < w0.heap.size) w0 Θ [] E0 st0 k v w' := by
  rw [runX_eq] at h
  exact calls_of_runE (X := tabs P hm con glob ls) (cxOf_ok P hm con hg) (cxOf_fns hcon) (st0_rel rfl w0) (xs := []) rfl h hfn
theorem isTrueK_out {X : Tabs} {K : Nat → Prop} {w0 : World} {Θ : Pred} {R : List Back} {E : Env} {st : St} {v : Value} {w' : World} (h : OutV X K w0 Θ R E st isTrueK v w') : v = .bool true ∧ Kept K w0 w' := by
  obtain ⟨v', st', E', R', _, h2, _, h4, _, h6⟩ := h
  refine ⟨?_, h4.kept⟩
  unfold isTrueK at h2
  split at h2
  · rename_i st e
    cases e
    rw [← Option.some.inj h6]
  · rename_i cc st e
    cases e
    obtain ⟨b, hb, hv⟩ := den_cnd h6
    obtain ⟨h7, _⟩ := needK_inv h2 h4.facts hb
    rw [hv, h7]
  · exact h2.elim
/-- A closed call returns true. -/
theorem closed_true (hm : P.follows .mixedOrders = true) {con : Tr Con} {glob : Tr (Tr AV)} {n f : Nat} (h : (runX P con glob n (.call f []) isTrueK).triv = true) (hfn : hasFn P f = true) {w0 : World} (hg : GlobOK glob w0) (hcon : ConOK P hm con glob w0 fun _ _ => True) :
    Calls P f #[] w0 fun e w' => e = .returned (.bool true) ∧ Below w0.heap.size w0 w' :=
  (calls_of_run hm hg hcon (triv_holds h) hfn).mono fun e w' ⟨v, he, ho⟩ => by
    obtain ⟨h1, h2⟩ := isTrueK_out ho
    subst h1
    exact ⟨he, Kept.below h2⟩
end
end Go.Sy
/-! A law's row. -/
namespace Go.Sy
open Go.RowKit (Below)
section
open Go.ChangeShapes Go.WideShapes Go.ChangeAt
variable {P : Program} {H : Type} {enc : TypeId × Value → H}
/-- The row's end, where what was there is as it was. -/
theorem post_of_below {f : Func} {s : ChangeSpec} {apart fresh handsOn again : Bool} {W W' : World} {args : Array Value} {v : Value} {ds gs : List (DataW H)} {before pa pv : List MemPlace}
    (hW : DataW.Whole enc P f.params.toList s.vars apart W args.toList ds gs before)
    (hres : ∀ (b : Nat) (sp : Nat → Bool) (hd : Bool), DataW.TrodAll enc P W' b sp hd f.resultTypes.toList (v.resultList f.resultTypes.size) (s.fn H (ds ++ gs)).results [])
    (hargs : ∀ sp : Nat → Bool, (∀ p ∈ before, sp p.block = true) → DataW.TrodAll enc P W' 0 sp true f.params.toList args.toList (s.fn H (ds ++ gs)).args pa)
    (hvars : ∀ sp : Nat → Bool, (∀ p ∈ before, sp p.block = true) → DataW.TrodVars enc P W' sp s.vars (s.fn H (ds ++ gs)).vars pv)
    (hps : before = pa ++ pv) (hb : Below W.heap.size W W')
    (hok : ∀ (j : Nat) (t : TypeId) (r : Value), f.resultTypes[j]? = some t → (v.resultList f.resultTypes.size)[j]? = some r → Value.okWide P W' .any 0 t r) :
    s.post enc P f apart fresh handsOn again W args v W' := by
  have hold : ∀ p ∈ before, (fun b => decide (b < W.heap.size)) p.block = true := fun p hp => by simpa using hW.lt p hp
  refine ⟨ds, gs, before, [], pa, pv, hW, hres _ _ _, hargs _ hold, hvars _ hold, World.keptBut_mono (fun p hp => ⟨hp, ?_⟩) (hb.frame (· ∈ before)), fun _ => ?_⟩
  · rw [hps, List.mem_append] at hp
    exact Or.inr hp
  · have hlt := fun p hp => hW.lt p hp
    obtain ⟨_, _, _, _, _, hz, hn⟩ := hW
    refine ⟨hok, _, _, ([] ++ pa) ++ pv, ⟨[] ++ pa, pv, trodAll_append (hargs _ (fun _ _ => rfl)) (hres _ _ _), hvars _ (fun _ _ => rfl), rfl, ?_, ?_⟩, ?_⟩
    · intro b off hp
      rw [List.nil_append, ← hps] at hp
      rw [hb.frozen (p := ⟨b, off, none⟩) (hlt _ hp)]
      exact hz b off hp
    · intro ha
      have := hn ha
      rw [hps] at this
      simpa using this
    · intro p hp _
      rw [hps]
      simpa using hp
end

section
open Go.ChangeShapes Go.WideShapes Go.ChangeAt Go.RowKit
variable {P : Program} {H : Type} {enc : TypeId × Value → H}
noncomputable def readAll (P : Program) (ts : List TypeId) : Bool := ts.all fun t => P.readableRec t && decide (t < P.types.size)
theorem trodAll_stays (hl : laidOutB P = true) {W W' : World} {sp : Nat → Bool} : ∀ {ts : List TypeId} {vs : List Value} {ds : List (DataW H)} {ps : List MemPlace}, readAll P ts = true →
    DataW.TrodAll enc P W 0 (fun _ => true) true ts vs ds ps → (∀ p ∈ ps, W.sameAt W' p) → (∀ p ∈ ps, sp p.block = true) → DataW.TrodAll enc P W' 0 sp true ts vs ds ps
  | [], [], [], ps, _, h, _, _ => h
  | t :: ts, v :: vs, d :: ds, ps, hr, h, hs, hp => by
    obtain ⟨p, q, h1, h2, rfl⟩ := h
    simp only [readAll, List.all_cons, Bool.and_eq_true, decide_eq_true_eq] at hr
    exact ⟨p, q, WideElems.Trod_stays hl hr.1.1 hr.1.2 h1 (fun x hx => hs x (List.mem_append_left _ hx)) (fun x hx => hp x (List.mem_append_left _ hx)),
      trodAll_stays hl (by simpa [readAll] using hr.2) h2 (fun x hx => hs x (List.mem_append_right _ hx)) (fun x hx => hp x (List.mem_append_right _ hx)), rfl⟩
  | [], [], _ :: _, _, _, h, _, _ => h.elim
  | [], _ :: _, _, _, _, h, _, _ => h.elim
  | _ :: _, [], _, _, _, h, _, _ => h.elim
  | _ :: _, _ :: _, [], _, _, h, _, _ => h.elim

theorem trodAll_length {W : World} {sp : Nat → Bool} {b : Nat} {hd : Bool} : ∀ {ts : List TypeId} {vs : List Value} {ds : List (DataW H)} {ps : List MemPlace}, DataW.TrodAll enc P W b sp hd ts vs ds ps → vs.length = ts.length ∧ ds.length = ts.length
  | [], [], [], ps, _ => ⟨rfl, rfl⟩
  | t :: ts, v :: vs, d :: ds, ps, h => by
    obtain ⟨p, q, _, h2, _⟩ := h
    have := trodAll_length h2
    simp [this.1, this.2]
  | [], [], _ :: _, _, h => h.elim
  | [], _ :: _, _, _, h => h.elim
  | _ :: _, [], _, _, h => h.elim
  | _ :: _, _ :: _, [], _, h => h.elim

/-- The row's end. -/
theorem law_post {f : Func} {s : ChangeSpec} {W W' : World} {args : Array Value} {ds gs : List (DataW H)} {before : List MemPlace} {tb : TypeId} (hl : laidOutB P = true) (hv : s.vars = []) (hr : readAll P f.params.toList = true)
    (hres : f.resultTypes = #[tb]) (htb : P.underlying tb = some .bool) (hW : DataW.Whole enc P f.params.toList s.vars false W args.toList ds gs before)
    (hs1 : (s.fn H ds).results = [.lit (.bool true)]) (hs2 : (s.fn H ds).args = ds) (hs3 : (s.fn H ds).vars = []) (hb : Below W.heap.size W W') :
    s.post enc P f false true false false W args (.bool true) W' := by
  have hW' := hW
  have hlt := fun p hp => hW.lt p hp
  obtain ⟨p, q, hA, hV, rfl, hfz, hnd⟩ := hW
  rw [hv] at hV
  obtain ⟨rfl, rfl⟩ := trodVars_none hV
  rw [List.append_nil] at hW' hlt
  refine post_of_below (pa := p) (pv := []) hW' (fun _ _ _ => ?_) (fun sp hsp => ?_) (fun _ _ => ?_) (by simp) hb ?_
  · rw [List.append_nil, hs1, hres]
    exact trodAll_mk1 (shut_bool htb _)
  · rw [List.append_nil, hs2]
    exact trodAll_stays hl hr hA (fun x hx => hb.same (hlt x hx)) (fun x hx => hsp x hx)
  · rw [List.append_nil, hs3, hv]; rfl
  · exact ok_one hres rfl (okWide_bool_mk htb _)

end
end Go.Sy
/-! What the package's variables hold. -/
namespace Go.Sy
noncomputable def litAV : DataW Unit → Option AV
  | .lit (.int k n) => ofInt k n
  | .lit (.string l) => some (.str l.length (l.map UInt8.toNat))
  | _ => none
noncomputable def litAVs (l : List (DataW Unit)) : Option (List AV) := List.rec (motive := fun _ => Option (List AV)) (some []) (fun d _ ih => obind (litAV d) fun v => obind ih fun r => some (v :: r)) l
noncomputable def partsOf : DataW Unit → List (DataW Unit)
  | .agg l => l
  | _ => []
noncomputable def globOf (P : Program) (l : List (String × DataW Unit)) : Tr (Tr AV) :=
  List.rec (motive := fun _ => Tr (Tr AV)) .nil (fun x _ ih => Option.rec ih (fun g => Option.rec ih (fun vs => ih.set g (some (puts vs 0 .nil))) (litAVs (partsOf x.2))) (P.globalNamed x.1)) l
noncomputable def elemOK (P : Program) (e : TypeId) : Bool := match P.underlying e with
  | some (.int _) => Nat.beq (P.cellsOf e) 1
  | some .string => Nat.beq (P.cellsOf e) 1
  | _ => false
noncomputable def globWf (P : Program) (l : List (String × DataW Unit)) : Bool := l.all fun x => match P.globalNamed x.1 with
  | some g => match (P.globals[g]?).map (·.type) with
    | some t => match P.underlying t with
      | some (.array n e) => elemOK P e && Nat.beq (partsOf x.2).length n
      | _ => false
    | none => false
  | none => false
section
variable {P : Program} {W : World}
theorem litAVs_get : ∀ {l : List (DataW Unit)} {vs : List AV}, litAVs l = some vs → ∀ {i : Nat} {v : AV}, vs[i]? = some v → ∃ d, l[i]? = some d ∧ litAV d = some v
  | [], vs, h, i, v, hv => by cases h; simp at hv
  | d :: l, vs, h, i, v, hv => by
    change obind (litAV d) (fun v => obind (litAVs l) fun r => some (v :: r)) = some vs at h
    obtain ⟨v0, h1, h⟩ := obind_inv h
    obtain ⟨r, h2, h⟩ := obind_inv h
    cases h
    cases i with
    | zero => simp at hv; subst hv; exact ⟨d, rfl, h1⟩
    | succ i => obtain ⟨d', h3, h4⟩ := litAVs_get h2 (i := i) (v := v) (by simpa using hv); exact ⟨d', by simpa using h3, h4⟩
theorem lit_cell {e : TypeId} (he : elemOK P e = true) {c : List Value} {enc : TypeId × Value → Unit} {b : Nat} {sp : Nat → Bool} {hd : Bool} {f : Nat} {d : DataW Unit} {p : List MemPlace} (h : DataW.trod enc P W b sp hd f e c = some (d, p)) {v : AV} (hv : litAV d = some v) : ∃ x, c = [x] ∧ ∀ E, v.den E = some x := by
  unfold elemOK at he
  split at he
  · rename_i k hk
    obtain ⟨n, rfl, hx, _⟩ := DataW.trod_int hk h
    cases hx
    exact ⟨_, rfl, fun E => den_ofCell (v := .int k n) hv⟩
  · rename_i hk
    obtain ⟨s, rfl, hx, _⟩ := DataW.trod_string hk h
    cases hx
    refine ⟨_, rfl, fun E => ?_⟩
    have hv' : ofCell (.string s) = some v := by
      rw [← hv]
      show some (AV.str s.size (s.data.toList.map UInt8.toNat)) = some (AV.str s.data.toList.length (s.data.toList.map UInt8.toNat))
      rw [Array.length_toList]; rfl
    exact den_ofCell hv'
  · cases he
theorem glob_laid {enc : TypeId × Value → Unit} : ∀ {l : List (String × DataW Unit)} {ps : List MemPlace}, DataW.LaidVars P W l ps → globWf P l = true → GlobOK (globOf P l) W
  | [], ps, _, _ => globOK_nil W
  | (nm, d) :: l, ps, h, hw => by
    simp only [globWf, List.all_cons, Bool.and_eq_true] at hw
    obtain ⟨g, t, cs, f, p, q, hg, ht, hv, htr, hrest, _⟩ := h
    have ih := glob_laid (enc := enc) hrest (by simpa [globWf] using hw.2)
    have hw1 := hw.1
    simp only [hg] at hw1
    rw [ht] at hw1
    simp only at hw1
    change GlobOK (Option.rec (globOf P l) (fun g => Option.rec (globOf P l) (fun vs => (globOf P l).set g (some (puts vs 0 .nil))) (litAVs (partsOf d))) (P.globalNamed nm)) W
    rw [hg]
    change GlobOK (Option.rec (globOf P l) (fun vs => (globOf P l).set g (some (puts vs 0 .nil))) (litAVs (partsOf d))) W
    cases hl : litAVs (partsOf d) with
    | none => exact ih
    | some vs =>
      intro g' t' hg'
      change ((globOf P l).set g (some (puts vs 0 .nil))).get g' = some t' at hg'
      rw [Tr.get_set] at hg'
      by_cases c : g = g'
      · subst c
        rw [if_pos rfl] at hg'
        cases hg'
        cases hu : P.underlying t with
        | none => rw [hu] at hw1; cases hw1
        | some du =>
          rw [hu] at hw1
          cases du <;> try (cases hw1; done)
          rename_i n e
          simp only [Bool.and_eq_true, beq_iff, decide_eq_true_eq] at hw1
          obtain ⟨he, hn⟩ := hw1
          obtain ⟨xs, m, rfl, hx, hlen, hxn, hel⟩ := DataW.trod_array hu htr
          have hd : d = .agg (xs.map (·.1)) := by simpa using congrArg Prod.fst hx
          have hc1 : P.cellsOf e = 1 := by
            unfold elemOK at he
            split at he <;> first | (cases he; done) | (rw [beq_iff, decide_eq_true_eq] at he; exact he)
          refine ⟨?_, fun i v hi => ?_⟩
          · have := World.var?_cell hg hv 0
            simp only [World.var?, hg, Option.bind_some] at hv
            split at hv
            · rename_i hh; exact (Array.getElem?_eq_some_iff.1 hh).1
            · cases hv
          · rw [puts_get] at hi
            split at hi
            · rename_i hlt
              rw [Nat.sub_zero] at hi
              obtain ⟨di, hdi, hli⟩ := litAVs_get hl hi
              rw [hd] at hdi
              simp only [partsOf, List.getElem?_map, Option.map_eq_some_iff] at hdi
              obtain ⟨xi, hxi, hfst⟩ := hdi
              obtain ⟨dd, pp⟩ := xi
              simp only at hfst
              subst hfst
              have hin : i < n := by have := (List.getElem?_eq_some_iff.1 hxi).1; omega
              have h1 := hel i hin
              rw [hxi, hc1, Nat.mul_one] at h1
              obtain ⟨x, hx1, hx2⟩ := lit_cell he h1 hli
              refine ⟨x, hx2, ?_⟩
              rw [World.var?_cell hg hv i]
              have : (cs.toList.drop i).take 1 = [x] := hx1
              have h3 : ((cs.toList.drop i).take 1)[0]? = some x := by rw [this]; rfl
              rw [List.getElem?_take_of_lt (by decide), List.getElem?_drop] at h3
              simpa using h3
            · simp at hi
      · rw [if_neg c] at hg'
        exact ih g' t' hg'
theorem glob_met {l : List (String × DataW Unit)} (hp : (l.all fun x => x.2.handleName?.isNone) = true) (hw : globWf P l = true) (h : laidMetH P l W) : GlobOK (globOf P l) W := by
  rw [MakeChecks.laidMetH_plain _ _ _ hp] at h
  obtain ⟨ps, h, _⟩ := h
  exact glob_laid (enc := fun _ => ()) h hw
end
end Go.Sy
