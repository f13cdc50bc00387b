import Derived.Test.YtjpohnhgajjndajGreatDoorSyKA
/-! The evaluator's conditions suffice. -/
namespace Go.Sy
section
variable {X : Tabs} {K : Nat → Prop} {w0 : World} {E : Env} {st : St} {w : World} {Θ : Pred} {R : List Back} {tm : Tm} {rec : Rec} {N : Nat} {ds : List Nat} {a : Act} {k : Res → VC} {rd r : Option Nat} {fid : FuncId}

theorem okCode_mono {N M : Nat} (h : N ≤ M) : ∀ (c : Code), okCode N c = true → okCode M c = true
  | .region _ ops _, hc => by
    simp only [okCode, List.all_eq_true] at hc ⊢
    intro o ho
    have := hc o ho
    unfold dstLt at this ⊢
    split at this
    · rfl
    · simp only [decide_eq_true_eq] at this ⊢; exact Nat.lt_of_lt_of_le this h
  | .seq a b, hc => by
    simp only [okCode, Bool.and_eq_true] at hc ⊢
    exact ⟨okCode_mono h a hc.1, okCode_mono h b hc.2⟩
  | .cond _ a b, hc => by
    simp only [okCode, Bool.and_eq_true] at hc ⊢
    exact ⟨okCode_mono h a hc.1, okCode_mono h b hc.2⟩
  | .block _ a, hc => by simp only [okCode] at hc ⊢; exact okCode_mono h a hc
  | .loop a, hc => by simp only [okCode] at hc ⊢; exact okCode_mono h a hc
  | .scope a, hc => by simp only [okCode] at hc ⊢; exact okCode_mono h a hc
  | .rangeFunc _ ps a b, hc => by
    simp only [okCode, Bool.and_eq_true, List.all_eq_true, decide_eq_true_eq] at hc ⊢
    exact ⟨fun p hp => Nat.lt_of_lt_of_le (hc.1 p hp) h, okCode_mono h a hc.2.1, okCode_mono h b hc.2.2⟩
  | .skip, _ | .exit _, _ | .label _, _ | .goto _, _ | .ret, _ | .refuse _, _ => rfl

theorem call_ok (hc : CxOK X K w0) (hf : FnsOK X K w0 Θ) (hr : RecOK X K w0 Θ rec) {f : FuncId} {args : List AV} {xs : List Value} (hS : StRel X K w0 E st w) (hargs : denL E args = some xs) (h : (stCall X.cx rec f args st k).holds Θ E.va R) :
    OpRes X.P (OutV X K w0 Θ R E st k) ((callFunc f xs.toArray).run X.P w) := by
  unfold stCall at h
  cases hcon : X.cx.con.get f with
  | some c =>
    rw [hcon] at h
    have h : (c args st fun v st => k (.val v st)).holds Θ E.va R := h
    exact (hf.con f c hcon hS hargs h).mono fun y w' ho => ho
  | none =>
    rw [hcon] at h
    obtain ⟨fi, hfi, h⟩ := vbind_inv h
    rw [putsK_eq] at h
    obtain ⟨fn, c, hfn, hbody, hres, hrel, hname, hok⟩ := hf.fns f fi hfi
    have hxl := denL_length hargs
    rw [callFunc_enter hfn (by rw [hbody]; rfl) hname]
    have hT : TmRel E (puts args 0 .nil) [] { tmps := xs.toArray ++ Array.replicate (fn.ntmps - xs.toArray.size) undef, defers := [] } (xs.toArray ++ Array.replicate (fn.ntmps - xs.toArray.size) undef).size := by
      refine ⟨rfl, trivial, ⟨fun t => ?_⟩⟩
      have hslot : slot (puts args 0 .nil) (pth t) = ((puts args 0 .nil).get t).getD (.tuple []) := by
        unfold slot Tr.get
        cases Tr.getP (pth t) (puts args 0 .nil) <;> rfl
      rw [hslot, puts_get]
      by_cases c : 0 ≤ t ∧ t < 0 + args.length
      · rw [if_pos c]
        have ht : t < args.length := by omega
        have hv : args[t - 0]? = some args[t] := by simp [ht]
        rw [hv]
        obtain ⟨y, h1, h2⟩ := denL_get hargs (i := t) (v := args[t]) (by simp [ht])
        refine ⟨y, h1, ?_⟩
        have hlt : t < xs.length := by omega
        simp [Array.getD_eq_getD_getElem?, Array.getElem?_append_left, hlt]
        exact (List.getElem?_eq_some_iff.1 h2).2
      · rw [if_neg c]
        refine ⟨undef, by simp; rfl, ?_⟩
        have hge : xs.length ≤ t := by omega
        simp only [Array.getD_eq_getD_getElem?]
        rw [Array.getElem?_append_right (by simpa using hge)]
        simp only [Array.getElem?_replicate]
        split <;> rfl
    have hN : fn.ntmps ≤ (xs.toArray ++ Array.replicate (fn.ntmps - xs.toArray.size) undef).size := by simp; omega
    refine callsIn_of_wp_marks hfn hbody (FW_fn _ _) (wpIn_mono (hr.code (r := none) (rd := none) hrel (okCode_mono hN _ hok) trivial hS hT h) fun e a' w' hq => ?_) rfl
    obtain ⟨ex, tm', ds', st', E', R', rfl, g1, g2, g3, g4, g5, g6⟩ := hq
    cases ex with
    | normal => exact leave_ok hc hres g1 g3 g5 g4 g6.defers g6.rel g2
    | ret => exact leave_ok hc hres g1 g3 g5 g4 g6.defers g6.rel g2
    | exit i => exact g2.elim
    | goto i => exact g2.elim

theorem code_ok (hc : CxOK X K w0) (hf : FnsOK X K w0 Θ) (hr : RecOK X K w0 Θ rec) {c : BC} {cd : Code} (hrel : CRel X fid c cd) (hN : okCode N cd = true) (hrd : RdRel E rd r) (hS : StRel X K w0 E st w) (hT : TmRel E tm ds a N)
    (h : (stCode c X.cx rec tm ds rd st k).holds Θ E.va R) : cd.wpIn (FW r) 0 X.P (CodeOut X K w0 Θ R E st N k) a w := by
  subst hrel
  cases cd with
  | skip => exact wpIn_skip (CodeOut.now (ex := .normal) hS hT h)
  | label l => exact wpIn_label (CodeOut.now (ex := .normal) hS hT h)
  | exit id => exact wpIn_exit (CodeOut.now (ex := .exit id) hS hT h)
  | goto l => exact wpIn_goto (CodeOut.now (ex := .goto l) hS hT h)
  | ret => exact wpIn_ret (CodeOut.now (ex := .ret) hS hT h)
  | refuse s => exact h.elim
  | region id ops dr =>
    cases dr with
    | false => exact wpIn_region_list (ops_ok hc hr ops.toList ops rfl ops.toList tm st st E E R R w a (fun o ho => List.all_eq_true.1 hN o ho) hS hT (.refl E) (.refl E st) List.prefix_rfl h)
    | true => exact draw_ok hc hr hN hS hT h
  | seq x y =>
    simp only [okCode, Bool.and_eq_true] at hN
    have h : (rec (.code (cCode X.cx.und X.cx.size X.cx.zero fid x) tm ds rd) st (seqK rec (cCode X.cx.und X.cx.size X.cx.zero fid y) rd k)).holds Θ E.va R := h
    refine wpIn_seq (wpIn_mono (hr.code (f := fid) rfl hN.1 hrd hS hT h) fun e a' w' hq => ?_)
    obtain ⟨ex, tm', ds', st', E', R', rfl, g1, g2, g3, g4, g5, g6⟩ := hq
    cases ex with
    | normal =>
      have g2 : (rec (.code (cCode X.cx.und X.cx.size X.cx.zero fid y) tm' ds' rd) st' k).holds Θ E'.va R' := g2
      exact wpIn_mono (hr.code (f := fid) rfl hN.2 (hrd.mono g3) g4 g6 g2) fun e a w hq => hq.trans g1 g3 g5
    | exit i => exact ⟨.exit i, tm', ds', st', E', R', rfl, g1, g2, g3, g4, g5, g6⟩
    | goto i => exact ⟨.goto i, tm', ds', st', E', R', rfl, g1, g2, g3, g4, g5, g6⟩
    | ret => exact ⟨.ret, tm', ds', st', E', R', rfl, g1, g2, g3, g4, g5, g6⟩
  | cond c x y =>
    simp only [okCode, Bool.and_eq_true] at hN
    change (stCode (Option.rec .bad (fun c => .cond c (cCode X.cx.und X.cx.size X.cx.zero fid x) (cCode X.cx.und X.cx.size X.cx.zero fid y)) (cO c)) X.cx rec tm ds rd st k).holds Θ E.va R at h
    cases hco : cO c with
    | none => rw [hco] at h; exact h.elim
    | some b =>
      rw [hco] at h
      have h : (condK rec (cCode X.cx.und X.cx.size X.cx.zero fid x) (cCode X.cx.und X.cx.size X.cx.zero fid y) tm ds rd st k (ev tm b)).holds Θ E.va R := h
      have hev := hT.rd [c] c (by simp) b hco
      unfold condK at h
      split at h
      · rename_i bb hb
        rw [hb] at hev
        have hev : a.eval c = .bool bb := (Option.some.inj hev).symm
        cases bb with
        | true => exact wpIn_cond_true hev (hr.code (f := fid) rfl hN.1 hrd hS hT h)
        | false => exact wpIn_cond_false hev (hr.code (f := fid) rfl hN.2 hrd hS hT h)
      · rename_i t hb
        rw [hb] at hev
        obtain ⟨bb, ht, hev⟩ := den_cnd hev
        obtain ⟨f, hf', h⟩ := brK_inv h hS.facts ht
        rcases h with ⟨rfl, h⟩ | ⟨rfl, h⟩
        · exact wpIn_cond_true hev (wpIn_mono (hr.code (f := fid) rfl hN.1 hrd (hS.withF hf') hT h) fun e a w hq => hq.trans List.prefix_rfl (.refl E) (hp_withF E st f))
        · exact wpIn_cond_false hev (wpIn_mono (hr.code (f := fid) rfl hN.2 hrd (hS.withF hf') hT h) fun e a w hq => hq.trans List.prefix_rfl (.refl E) (hp_withF E st f))
      · exact h.elim
  | block id b =>
    simp only [okCode] at hN
    have h : (rec (.code (cCode X.cx.und X.cx.size X.cx.zero fid b) tm ds rd) st (blockK id k)).holds Θ E.va R := h
    refine wpIn_block (wpIn_mono (hr.code (f := fid) rfl hN hrd hS hT h) fun e a' w' hq => ?_)
    obtain ⟨ex, tm', ds', st', E', R', rfl, g1, g2, g3, g4, g5, g6⟩ := hq
    cases ex with
    | exit i =>
      have g2 : (bif_ (Nat.beq i id) (k (.code .normal tm' ds' st')) (k (.code (.exit i) tm' ds' st'))).holds Θ E'.va R' := g2
      rw [beq_iff] at g2
      by_cases e : i = id
      · subst e
        rw [decide_eq_true rfl] at g2
        simp only [toExit, Exit.inBlock, if_true]
        exact ⟨.normal, tm', ds', st', E', R', rfl, g1, g2, g3, g4, g5, g6⟩
      · rw [decide_eq_false e] at g2
        simp only [toExit, Exit.inBlock, e, if_false]
        exact ⟨.exit i, tm', ds', st', E', R', rfl, g1, g2, g3, g4, g5, g6⟩
    | normal => exact ⟨.normal, tm', ds', st', E', R', rfl, g1, g2, g3, g4, g5, g6⟩
    | goto i => exact ⟨.goto i, tm', ds', st', E', R', rfl, g1, g2, g3, g4, g5, g6⟩
    | ret => exact ⟨.ret, tm', ds', st', E', R', rfl, g1, g2, g3, g4, g5, g6⟩
  | loop b =>
    simp only [okCode] at hN
    exact wp_of_bodyLoop (hr.loop (an := none) (f := fid) rfl hN hrd hS hT h)
  | rangeFunc g ps x y =>
    change (stCode (Option.rec .bad (fun f => .rngf fid f (mapL pth ps.toList) (cCode X.cx.und X.cx.size X.cx.zero fid x) (cCode X.cx.und X.cx.size X.cx.zero fid y)) (cO g)) X.cx rec tm ds rd st k).holds Θ E.va R at h
    cases hg : cO g with
    | none => rw [hg] at h; exact h.elim
    | some bg =>
      rw [hg] at h
      obtain ⟨hB, h⟩ := vif_inv h
      exact rngf_ok hf hr hg hN hB hrd hS hT h
  | «scope» b =>
    have hN : okCode N b = true := hN
    have h : (rec (.code (cCode X.cx.und X.cx.size X.cx.zero fid b) tm ds rd) st (scopeK rec (cCode X.cx.und X.cx.size X.cx.zero fid b) rd k 1000)).holds Θ E.va R := h
    exact wpIn_scope (scope_ok hr hN 1000 b tm ds st st E E R R a w hN hrd hS hT List.prefix_rfl (.refl E) (.refl E st) h)

theorem loop_ok (hr : RecOK X K w0 Θ rec) {c : BC} {an : Option Nat} {cd : Code} (hrel : CRel X fid c cd) (hN : okCode N cd = true) (hrd : RdRel E rd r) (hS : StRel X K w0 E st w) (hT : TmRel E tm ds a N)
    (h : (rec (.code c tm ds rd) st (loopK rec an c rd k)).holds Θ E.va R) : BodyLoop (FW r) X.P cd (CodeOut X K w0 Θ R E st N k) a w := by
  refine bodyLoop_of_wp (wpIn_mono (hr.code (f := fid) hrel hN hrd hS hT h) fun e a' w' hq => ?_)
  obtain ⟨ex, tm', ds', st', E', R', rfl, g1, g2, g3, g4, g5, g6⟩ := hq
  cases ex with
  | normal =>
    have g2 : (rec (.loop an c tm' ds' rd) st' k).holds Θ E'.va R' := g2
    have hb := hr.loop (f := fid) hrel hN (hrd.mono g3) g4 g6 g2
    exact fun b kk cs hro hbf hrm => let ⟨e, a', w', q, rr⟩ := hb b kk cs hro hbf hrm; ⟨e, a', w', q.trans g1 g3 g5, rr⟩
  | exit i => exact ⟨.exit i, tm', ds', st', E', R', rfl, g1, g2, g3, g4, g5, g6⟩
  | goto i => exact ⟨.goto i, tm', ds', st', E', R', rfl, g1, g2, g3, g4, g5, g6⟩
  | ret => exact ⟨.ret, tm', ds', st', E', R', rfl, g1, g2, g3, g4, g5, g6⟩

theorem run_ok (hc : CxOK X K w0) (hf : FnsOK X K w0 Θ) : ∀ n, RecOK X K w0 Θ (run X.cx n)
  | 0 => ⟨fun _ _ _ _ _ h => h.elim, fun _ _ _ _ _ h => h.elim, fun _ _ h => h.elim, fun _ _ _ h => h.elim⟩
  | n + 1 => by
    have hr := run_ok hc hf n
    exact ⟨fun hrel hN hrd hS hT h => code_ok hc hf hr hrel hN hrd hS hT h, fun hrel hN hrd hS hT h => loop_ok hr hrel hN hrd hS hT h, fun hS hx h => call_ok hc hf hr hS hx h, fun hS hm hx h => round_ok hr hS hm hx h⟩
end
end Go.Sy
