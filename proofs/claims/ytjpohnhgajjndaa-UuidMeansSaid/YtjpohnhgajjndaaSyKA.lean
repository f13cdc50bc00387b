import Derived.Test.YtjpohnhgajjndaaSyK
/-! Loops over functions; what functions hand back. -/
namespace Go.Sy
section
variable {X : Tabs} {K : Nat → Prop} {w0 : World} {E : Env} {st : St} {w : World} {Θ : Pred} {R : List Back} {tm : Tm} {rec : Rec} {N : Nat} {ds : List Nat} {a : Act} {k : Res → VC} {rd r : Option Nat} {fid : FuncId}

theorem callFunc_enter {P : Program} {f : FuncId} {fn : Func} {args : Array Value} (hfn : P.funcs[f]? = some fn) (hb : fn.body.isSome = true) (hn : (fn.name == "runtime.NumGoroutine") = false) (w : World) : (callFunc f args).run P w = .ok (.enter f args) w := by
  have hn' : fn.name ≠ "runtime.NumGoroutine" := by simpa using hn
  have hb' : ¬ fn.body = none := by intro e; rw [e] at hb; cases hb
  simp [callFunc, program, Sem.run, hfn, hn', hb']
/-- The function that is ranged over has ended. -/
theorem endLoop_ok {l id : Nat} {a' : Act} {w' : World} {st' : St} {E' : Env} {R' : List Back} (hm : E'.m[l]? = some (some (id, 0))) (hS : StRel X K w0 E' st' w') (hT : TmRel E' tm ds a' N) (hR : R <+: R') (hE : E.Le E') (hH : HP E E' st st')
    (h : (endLoop l tm ds st' k (st'.x.objs.get l)).holds Θ E'.va R') :
    ∃ jump w4, (Instr.endLoop id).run X.P w' = .ok jump w4 ∧ (match jump with
      | none => CodeOut X K w0 Θ R E st N k .normal a' w4
      | some c => c.wpIn (FW r) 0 X.P (CodeOut X K w0 Θ R E st N k) a' w4) := by
  cases ho : st'.x.objs.get l with
  | none => rw [ho] at h; exact h.elim
  | some ob =>
    rw [ho] at h
    unfold endLoop at h
    split at h
    · rename_i s p f t ps x b d e
      cases e
      obtain ⟨L, hh, hrel⟩ := loop_obj hS ho hm
      have hob := hrel
      obtain ⟨h1, h2, h3⟩ := hrel
      split at h
      · exact h.elim
      · rename_i hs
        rw [withO_eq] at h
        have hnb : L.state ≠ .busy := by
          rw [h1]
          cases s <;> simp [lstOf]
          exact hs rfl
        have hnew : ObRel X E' (.loop .over p f t ps x b d) (.loop { L with state := .exhausted }) := ⟨rfl, h2, h3⟩
        obtain ⟨u1, u2⟩ := hS.putObj ho hm hh hob hnew
        obtain ⟨w4, hrun, u1⟩ : ∃ w4, (Instr.endLoop id).run X.P w' = .ok L.pending w4 ∧ StRel X K w0 E' (st'.setO l (.loop .over p f t ps x b d)) w4 := ⟨_, run_endLoop hh hnb, u1⟩
        refine ⟨_, w4, hrun, ?_⟩
        cases p with
        | none =>
          have hp : L.pending = none := by
            cases hp : L.pending with
            | none => rfl
            | some c => rw [hp] at h2; exact h2.elim
          rw [hp]
          exact ⟨.normal, tm, ds, _, E', R', rfl, hR, h, hE, u1, hH.trans u2, hT⟩
        | some c =>
          cases hp : L.pending with
          | none => rw [hp] at h2; exact h2.elim
          | some cd =>
            rw [hp] at h2
            have h : (vbind (jumpEx c) fun e => k (.code e tm ds (st'.setO l (.loop .over (some c) f t ps x b d)))).holds Θ E'.va R' := h
            obtain ⟨e, he, h⟩ := vbind_inv h
            rcases h2 with ⟨rfl, rfl⟩ | ⟨i, rfl, rfl⟩ | ⟨i, rfl, rfl⟩
            · cases he; exact wpIn_ret ⟨.ret, tm, ds, _, E', R', rfl, hR, h, hE, u1, hH.trans u2, hT⟩
            · cases he; exact wpIn_exit ⟨.exit i, tm, ds, _, E', R', rfl, hR, h, hE, u1, hH.trans u2, hT⟩
            · cases he; exact wpIn_goto ⟨.goto i, tm, ds, _, E', R', rfl, hR, h, hE, u1, hH.trans u2, hT⟩
    · exact h.elim
theorem enterLoop_ok (hf : FnsOK X K w0 Θ) (hr : RecOK X K w0 Θ rec) {g : Operand} {ps : Array Tmp} {x y : Code} {bg : BO} (hg : cO g = some bg) (hok : okCode N (.rangeFunc g ps x y) = true) (hB : hasB X.cx (ev tm bg) = true) {d did : Nat} {a' : Act} (hS : StRel X K w0 E st w) (hd : E.m[d]? = some (some (did, 0))) (hT : TmRel E tm ds a' N) (hev : a'.eval g = a.eval g)
    (h : (enterLoop rec fid (ev tm bg) (mapL pth ps.toList) (cCode X.cx.und X.cx.size X.cx.zero fid x) (cCode X.cx.und X.cx.size X.cx.zero fid y) tm d ds st k).holds Θ E.va R) (fn : FuncId) :
    ∃ (dd : Deferred) (w1' : World) (f : FuncId) (args : Array Value) (w2 : World),
      (resolve a.eval (rangeCall g w.heap.size) 0).run X.P (w.alloc (.loop { state := .ready, pending := none, fn := fn, tmps := a'.tmps, params := ps, assign := x, body := y, defers := did })) = .ok dd w1' ∧
      (invoke dd.target dd.args).run X.P w1' = .ok (.enter f args) w2 ∧
      CallsIn (FW r) 0 X.P f args w2 (rangePost (FW r) 0 X.P w.heap.size (CodeOut X K w0 Θ R E st N k) a') := by
  unfold enterLoop at h
  rw [newO_eq] at h
  simp only [okCode, Bool.and_eq_true] at hok
  obtain ⟨hps, hx, hy⟩ := hok
  have hnone : (E.push none).m[st.n]? = some none := by rw [← hS.n_eq]; exact push_new E none
  have hle : E.Le ((E.push none).set st.n (w.heap.size, 0)) := (E.le_push none).trans (Env.le_set hnone)
  have hrel : ObRel X ((E.push none).set st.n (w.heap.size, 0)) (.loop .ready none fid tm (mapL pth ps.toList) (cCode X.cx.und X.cx.size X.cx.zero fid x) (cCode X.cx.und X.cx.size X.cx.zero fid y) d)
      (.loop { state := .ready, pending := none, fn := fn, tmps := a'.tmps, params := ps, assign := x, body := y, defers := did }) := by
    refine ⟨rfl, trivial, hT.rel.mono hle, mapL_eq _ _, rfl, rfl, by rw [hT.size]; exact hx, by rw [hT.size]; exact hy, fun p hp => ?_, hle.m _ _ hd⟩
    rw [hT.size]; simpa using List.all_eq_true.1 hps p hp
  obtain ⟨s1, s2, s3, s4⟩ := hS.newObjAt _ _ hrel
  have hT' := hT.mono s3
  have hv := hT'.rd [g] g (by simp) bg hg
  rw [hev] at hv
  have hyl : denL ((E.push none).set st.n (w.heap.size, 0)) [.yld st.n] = some [.func (.yield w.heap.size) #[] #[]] := denL_cons.2 ⟨_, [], by simp [AV.den, s4], rfl, rfl⟩
  obtain ⟨dd, q1, q2⟩ := xCallv_out hr s1 h hv hyl
  have hres : (resolve a.eval (rangeCall g w.heap.size) 0).run X.P (w.alloc (.loop { state := .ready, pending := none, fn := fn, tmps := a'.tmps, params := ps, assign := x, body := y, defers := did })) = .ok dd (w.alloc (.loop { state := .ready, pending := none, fn := fn, tmps := a'.tmps, params := ps, assign := x, body := y, defers := did })) := by
    have := q1 (w.alloc (.loop { state := .ready, pending := none, fn := fn, tmps := a'.tmps, params := ps, assign := x, body := y, defers := did }))
    simpa [resolve, rangeCall, Act.eval] using this
  have hent : ∃ f args, (invoke dd.target dd.args).run X.P (w.alloc (.loop { state := .ready, pending := none, fn := fn, tmps := a'.tmps, params := ps, assign := x, body := y, defers := did })) = .ok (.enter f args) (w.alloc (.loop { state := .ready, pending := none, fn := fn, tmps := a'.tmps, params := ps, assign := x, body := y, defers := did })) := by
    unfold hasB at hB
    split at hB
    · rename_i f c1 c2 hevb
      rw [hevb] at hv
      obtain ⟨x1, x2, _, _, e⟩ := den_func' hv
      cases hfi : X.cx.fns.get f with
      | none => rw [hfi] at hB; cases hB
      | some fi =>
        obtain ⟨fnn, c, g1, g2, _, _, g5, _⟩ := hf.fns f fi hfi
        rw [e] at q1
        have q1' := q1 w
        simp [Deferred.ofValue] at q1'
        subst q1'
        exact ⟨f, _, callFunc_enter g1 (by rw [g2]; rfl) g5 _⟩
    · cases hB
  obtain ⟨f, args, hent⟩ := hent
  refine ⟨dd, _, f, args, _, hres, hent, ?_⟩
  rw [hent] at q2
  refine FW_calls (CallsIn.mono (show CallsIn (FW none) 0 X.P f args _ _ from q2) fun e w' he => ?_)
  cases e with
  | returned v =>
    obtain ⟨v', st', E', R', p1, p2, p3, p4, p5, p6⟩ := he
    exact endLoop_ok (p3.m _ _ s4) p4 (hT'.mono p3) p1 (s3.trans p3) (s2.trans p5) p2
  | panicked c => exact he.elim
  | outgrown => exact he.elim
theorem rngf_ok (hf : FnsOK X K w0 Θ) (hr : RecOK X K w0 Θ rec) {g : Operand} {ps : Array Tmp} {x y : Code} {bg : BO} (hg : cO g = some bg) (hok : okCode N (.rangeFunc g ps x y) = true) (hB : hasB X.cx (ev tm bg) = true) (hrd : RdRel E rd r) (hS : StRel X K w0 E st w) (hT : TmRel E tm ds a N)
    (h : (rngfK rec fid (ev tm bg) (mapL pth ps.toList) (cCode X.cx.und X.cx.size X.cx.zero fid x) (cCode X.cx.und X.cx.size X.cx.zero fid y) tm ds st k rd).holds Θ E.va R) :
    (Code.rangeFunc g ps x y).wpIn (FW r) 0 X.P (CodeOut X K w0 Θ R E st N k) a w := by
  refine wpIn_rangeFunc fun fn _ => ?_
  rw [FW_round]
  cases rd with
  | none =>
    cases r with
    | some _ => exact hrd.elim
    | none =>
      have h : (newO st (.dfr true) fun d st => enterLoop rec fid (ev tm bg) (mapL pth ps.toList) (cCode X.cx.und X.cx.size X.cx.zero fid x) (cCode X.cx.und X.cx.size X.cx.zero fid y) tm d (d :: ds) st k).holds Θ E.va R := h
      rw [newO_eq] at h
      obtain ⟨s1, s2, s3, s4⟩ := hS.newObjAt (.dfr true) (.deferred (some [])) rfl
      have hT' : TmRel ((E.push none).set st.n (w.heap.size, 0)) tm (st.n :: ds) { a with defers := [{ target := .collected w.heap.size, args := #[] }] ++ a.defers } N := by
        have := hT.mono s3
        exact ⟨this.size, ⟨⟨_, s4, rfl⟩, this.defers⟩, this.rel⟩
      obtain ⟨dd, w1', f, args, w2, q1, q2, q3⟩ := enterLoop_ok (r := none) (a := a) hf hr hg hok hB s1 s4 hT' (by cases g <;> rfl) h fn
      have hsz : (w.alloc (.deferred (some []))).heap.size = w.heap.size + 1 := by simp
      rw [hsz] at q1 q3
      refine ⟨w.heap.size + 1, _, _, dd, w1', f, args, w2, run_enterLoop_outer fn a.tmps ps x y, q1, fun f' _ => FW_fn _ _, q2, fun hd => (by rw [FW_depth] at hd; cases hd), ?_⟩
      refine CallsIn.mono q3 fun e w' he => ?_
      cases e with
      | returned v =>
        obtain ⟨jump, w4, e1, e2⟩ := he
        refine ⟨jump, w4, e1, ?_⟩
        cases jump with
        | none => exact CodeOut.trans e2 List.prefix_rfl s3 s2
        | some c => exact wpIn_mono e2 fun e a w he => CodeOut.trans he List.prefix_rfl s3 s2
      | panicked c =>
        obtain ⟨ex, _, _, _, _, _, e1, _⟩ := he
        cases ex <;> cases e1
      | outgrown =>
        obtain ⟨a0, w0', ex, _, _, _, _, _, e1, _⟩ := he
        cases ex <;> cases e1
  | some l =>
    cases r with
    | none => exact hrd.elim
    | some id =>
      obtain ⟨d, hdf, h⟩ := vbind_inv h
      have hob : ∃ s p f t ps' x' b', st.x.objs.get l = some (.loop s p f t ps' x' b' d) := by
        cases ho : st.x.objs.get l with
        | none => rw [ho] at hdf; cases hdf
        | some ob => rw [ho] at hdf; cases ob <;> cases hdf; exact ⟨_, _, _, _, _, _, _, rfl⟩
      obtain ⟨s, p, f0, t, ps', x', b', hob⟩ := hob
      obtain ⟨L, hh, hrel⟩ := loop_obj hS hob hrd
      have hd := hrel.2.2.2.2.2.2.2.2.2
      obtain ⟨dd, w1', f, args, w2, q1, q2, q3⟩ := enterLoop_ok (r := some id) (a := a) hf hr hg hok hB hS hd hT rfl h fn
      refine ⟨w.heap.size, [], _, dd, w1', f, args, w2, ?_, q1, fun f' _ => FW_fn _ _, q2, fun hd => (by rw [FW_depth] at hd; cases hd), q3⟩
      unfold Instr.enterLoop
      simp [Sem.run_bind, run_getLoop hh, Result.andThen]

/-! ### What a function hands back -/
def resVal (tmps : Array Value) : ResultVar → Sem Value
  | .tmp t => pure (tmps.getD t undef)
  | .cell c t => do Go.loadVar t (← asAddr (tmps.getD c undef))
theorem results_eq (fn : Func) (tmps : Array Value) : results fn tmps = (do let vs ← fn.results.mapM (resVal tmps); pure (if h : vs.size = 1 then vs[0] else .tuple vs)) := by
  unfold results
  congr 1
theorem results_sound (hc : CxOK X K w0) (hS : StRel X K w0 E st w) (hT : SlotRel E tm a.tmps) : ∀ {rs : List ResultVar} {bs : List BR} {vs : List AV}, cRess X.cx.und X.cx.size rs = some bs → resOf X.cx st tm bs = some vs →
    ∃ xs, denL E vs = some xs ∧ (rs.mapM (resVal a.tmps)).run X.P w = .ok xs w
  | [], bs, vs, hb, h => by cases hb; cases h; exact ⟨[], rfl, by simp⟩
  | x :: rs, bs, vs, hb, h => by
    change obind (cRes X.cx.und X.cx.size x) (fun b => obind (cRess X.cx.und X.cx.size rs) fun r => some (b :: r)) = some bs at hb
    obtain ⟨b, hb1, hb⟩ := obind_inv hb
    obtain ⟨bs', hb2, hb⟩ := obind_inv hb
    cases hb
    cases x with
    | tmp t =>
      cases hb1
      obtain ⟨vs', h1, h⟩ := obind_inv h
      cases h
      obtain ⟨xs, h2, h3⟩ := results_sound hc hS hT hb2 h1
      obtain ⟨x, h4, h5⟩ := hT.slots t
      exact ⟨x :: xs, denL_cons.2 ⟨_, _, h4, h2, rfl⟩, by simp only [List.mapM_cons, resVal, Sem.run_bind, Sem.run_pure, Result.andThen_ok, h3, h5]⟩
    | cell c t =>
      obtain ⟨n, hn, hb1⟩ := obind_inv hb1
      cases hb1
      obtain ⟨p, hp, h⟩ := obind_inv h
      obtain ⟨v, hv, h⟩ := obind_inv h
      obtain ⟨vs', h1, h⟩ := obind_inv h
      cases h
      obtain ⟨xs, h2, h3⟩ := results_sound hc hS hT hb2 h1
      obtain ⟨x, h4, h5⟩ := hT.slots c
      rw [asPtr_inv hp] at h4
      obtain ⟨ad, had, hx⟩ := den_ptr h4
      obtain ⟨y, h6, h7⟩ := loadVar_sound hc hS hn hv had
      exact ⟨y :: xs, denL_cons.2 ⟨_, _, h6, h2, rfl⟩, by simp only [List.mapM_cons, resVal, Sem.run_bind, h5, hx, asAddr, Sem.run_pure, Result.andThen_ok, h7, h3]⟩
theorem one_den {vs : List AV} {xs : List Value} (h1 : denL E vs = some xs) : ∃ x, (one vs).den E = some x ∧ x = (if h : xs.toArray.size = 1 then xs.toArray[0] else .tuple xs.toArray) := by
  match vs, xs, h1 with
  | [], xs, h1 => rw [denL_nil.1 h1]; exact ⟨_, rfl, rfl⟩
  | [v], xs, h1 =>
    obtain ⟨p, q, hp, hq, rfl⟩ := denL_cons.1 h1
    rw [denL_nil.1 hq]
    exact ⟨p, hp, rfl⟩
  | v :: u :: r, xs, h1 =>
    refine ⟨.tuple xs.toArray, by simp [one, AV.den, h1], ?_⟩
    have := denL_length h1
    rw [dif_neg]; simp at this ⊢; omega
/-- The marks are taken; what is handed back. -/
theorem leave_ok (hc : CxOK X K w0) {fn : Func} {bs : List BR} (hres : cRess X.cx.und X.cx.size fn.results.toList = some bs) {E0 : Env} {st0 : St} {R0 : List Back} : ∀ {ds : List Nat} {dfs : List Deferred} {st : St} {w : World}, R0 <+: R → E0.Le E → HP E0 E st0 st → StRel X K w0 E st w → DfRel E ds dfs → SlotRel E tm a.tmps →
    (closeD ds st fun st => vbind (resOf X.cx st tm bs) fun vs => k (.val (one vs) st)).holds Θ E.va R →
    LeavesInM (FW none) 0 X.P fn a.tmps (retOnly (OutV X K w0 Θ R0 E0 st0 k)) dfs .returning w
  | [], [], st, w, hR, hE, hH, hS, _, hT, h => by
    have h : (vbind (resOf X.cx st tm bs) fun vs => k (.val (one vs) st)).holds Θ E.va R := h
    obtain ⟨vs, hvs, h⟩ := vbind_inv h
    obtain ⟨xs, h1, h2⟩ := results_sound (a := a) hc hS hT hres hvs
    have hrun : (fn.results.mapM (resVal a.tmps)).run X.P w = .ok xs.toArray w := by
      rw [Array.mapM_eq_mapM_toList]
      simp only [Sem.run_map, h2, Result.andThen_ok]
    obtain ⟨x, hx, hx2⟩ := one_den h1
    refine ⟨x, ?_, one vs, st, E, R, hR, h, hE, hS, hH, hx⟩
    rw [results_eq, Sem.run_bind, hrun]
    simp only [Result.andThen_ok, Sem.run_pure, hx2]
  | d :: ds, df :: dfs, st, w, hR, hE, hH, hS, ⟨⟨id, hm, hdf⟩, hrest⟩, hT, h => by
    change (match st.x.objs.get d with
      | some (.dfr true) => withO st d (.dfr false) fun st => closeD ds st fun st => vbind (resOf X.cx st tm bs) fun vs => k (.val (one vs) st)
      | _ => .bad : VC).holds Θ E.va R at h
    cases ho : st.x.objs.get d with
    | none => rw [ho] at h; exact h.elim
    | some ob =>
      rw [ho] at h
      cases ob <;> try exact h.elim
      rename_i bb
      cases bb with
      | false => exact h.elim
      | true =>
        simp only at h
        rw [withO_eq] at h
        obtain ⟨ob, hh, hrel⟩ := obj_at hS ho hm
        cases ob <;> simp only [ObRel] at hrel
        subst hrel
        obtain ⟨u1, u2⟩ := hS.putObj ho hm hh (o' := .dfr false) (ob' := .deferred none) rfl rfl
        exact ⟨by simp, .inl ⟨id, _, by rw [hdf], run_takeDeferred hh, leave_ok hc hres hR hE (hH.trans u2) u1 hrest hT h⟩⟩
  | [], _ :: _, _, _, _, _, _, _, h, _, _ => h.elim
  | _ :: _, [], _, _, _, _, _, _, h, _, _ => h.elim
end
end Go.Sy
