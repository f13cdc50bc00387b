import Derived.Test.YtlcamplkgcokjaaSxY
/-! The evaluator's answers hold. -/
namespace Go.Sx
open Go.RowKit (Below)
section
variable {P : Program} {cx : Cx} {σ : Nat → Option Value} {B : Nat} {w0 : World} {E : Env} {st : St} {w : World} {tm : Tm} {a : Act} {N : Nat} {o : Oper} {rec : Rec} {r : Res}

theorem region_sound (hc : CxOK P cx σ B w0) (hr : RecOK P σ B w0 rec) {id : Nat} {ops : Array Oper} (hd : ops.toList.all (dstLt N) = true) (h : opsL cx rec ops.toList ops.toList tm st = some r) (hS : StRel σ B w0 E st w) (hT : TmRel σ E tm a N) :
    ∃ ex tm' st', r = .code ex tm' st' ∧ (Code.region id ops false).wp P (CodePost σ B w0 E N ex tm' st') a w := by
  obtain ⟨tm', st', h1, h2⟩ := opsL_sound hc hr ops ops.toList tm st E w a (fun o ho => List.all_eq_true.1 hd o ho) h hS hT
  refine ⟨.normal, tm', st', h1, wp_region ?_⟩
  have := wpOps_eq_wpList (P := P) (ops := ops) (Q := CodePost σ B w0 E N .normal tm' st') ops.toList 0 (fun j => by simp)
  rw [List.range_eq_range']
  rw [show ops.size = ops.toList.length by simp, this]
  exact h2

def resVal (tmps : Array Value) : ResultVar → Sem Value
  | .tmp t => pure (tmps.getD t undef)
  | .cell c t => do Go.loadVar t (← asAddr (tmps.getD c undef))
theorem results_eq (fn : Func) (tmps : Array Value) : results fn tmps = (do let vs ← fn.results.mapM (resVal tmps); pure (if h : vs.size = 1 then vs[0] else .tuple vs)) := by
  unfold results
  congr 1

theorem results_sound (hc : CxOK P cx σ B w0) (hS : StRel σ B w0 E st w) (hT : TmRel σ E tm a N) : ∀ {rs : List ResultVar} {vs : List AV}, resOf cx st tm rs = some vs →
    ∃ xs, denL σ E vs = some xs ∧ (rs.mapM (resVal a.tmps)).run P w = .ok xs w
  | [], vs, h => by cases h; exact ⟨[], rfl, by simp⟩
  | .tmp t :: rs, vs, h => by
    obtain ⟨vs', h1, h⟩ := obind_inv h
    cases h
    obtain ⟨xs, h2, h3⟩ := results_sound hc hS hT h1
    obtain ⟨x, h4, h5⟩ := hT.slots t
    exact ⟨x :: xs, denL_cons.2 ⟨_, _, h4, h2, rfl⟩, by simp only [List.mapM_cons, resVal, Sem.run_bind, Sem.run_pure, Result.andThen_ok, h3, h5]⟩
  | .cell c t :: rs, vs, h => by
    obtain ⟨p, hp, h⟩ := obind_inv h
    obtain ⟨v, hv, h⟩ := obind_inv h
    obtain ⟨vs', h1, h⟩ := obind_inv h
    cases h
    obtain ⟨xs, h2, h3⟩ := results_sound hc hS hT h1
    obtain ⟨x, h4, h5⟩ := hT.slots c
    rw [asPtr_inv hp] at h4
    obtain ⟨ad, had, hx⟩ := den_ptr h4
    obtain ⟨y, h6, h7⟩ := loadVar_sound hc hS hv had
    exact ⟨y :: xs, denL_cons.2 ⟨_, _, h6, h2, rfl⟩, by simp only [List.mapM_cons, resVal, Sem.run_bind, h5, hx, asAddr, Sem.run_pure, Result.andThen_ok, h7, h3]⟩

theorem stEnd_sound (hc : CxOK P cx σ B w0) (hS : StRel σ B w0 E st w) (hT : TmRel σ E tm a N) {fn : Func} {fi : FnI} (hres : fn.results.toList = fi.results) (h : stEnd cx fi tm st = some r) :
    ∃ v x, r = .val v st ∧ v.den σ E = some x ∧ (results fn a.tmps).run P w = .ok x w := by
  obtain ⟨vs, hvs, h⟩ := obind_inv h
  cases h
  rw [← hres] at hvs
  obtain ⟨xs, h1, h2⟩ := results_sound hc hS hT hvs
  have hrun : (fn.results.mapM (resVal a.tmps)).run P w = .ok xs.toArray w := by
    rw [Array.mapM_eq_mapM_toList]
    simp only [Sem.run_map, h2, Result.andThen_ok]
  have hone : ∃ x, (one vs).den σ E = some x ∧ x = (if h : xs.toArray.size = 1 then xs.toArray[0] else .tuple xs.toArray) := by
    match vs, xs, h1 with
    | [], xs, h1 => rw [denL_nil.1 h1]; exact ⟨_, rfl, rfl⟩
    | [v], xs, h1 =>
      obtain ⟨p, q, hp, hq, rfl⟩ := denL_cons.1 h1
      rw [denL_nil.1 hq]
      exact ⟨p, hp, rfl⟩
    | v :: u :: r, xs, h1 =>
      refine ⟨.tuple xs.toArray, by simp [one, AV.den, h1], ?_⟩
      have := denL_length h1
      rw [dif_neg]; simp at this ⊢; omega
  obtain ⟨x, hx, hx2⟩ := hone
  refine ⟨_, x, rfl, hx, ?_⟩
  rw [results_eq, Sem.run_bind, hrun]
  simp only [Result.andThen_ok, Sem.run_pure, hx2]

theorem stCall_sound (hc : CxOK P cx σ B w0) (hf : FnsOK P cx σ B w0) (hr : RecOK P σ B w0 rec) {f : FuncId} {args : List AV} (h : stCall cx rec f args st (cx.fns.get f) = some r) : TaskOK P σ B w0 (.call f args) st r := by
  intro E w xs hS hargs
  cases hfi : cx.fns.get f with
  | none =>
    rw [hfi] at h
    obtain ⟨v, hv, h⟩ := obind_inv h
    cases h
    obtain ⟨fn, h1, h2, x, h3, h4⟩ := hf.ext f args v hfi hv E st w xs hS hargs
    refine ⟨v, st, rfl, fn, h1, h2, ?_⟩
    rcases h4 with ⟨hb, h4⟩ | ⟨w', h4, h5⟩
    · exact .inl ⟨hb, h4.mono fun e w' ⟨g1, g2⟩ => ⟨E, x, .refl E, g1, h3, g2⟩⟩
    · exact .inr ⟨E, x, w', .refl E, h4, h3, h5⟩
  | some fi =>
    rw [hfi] at h
    change putsK args 0 .nil _ = some r at h
    rw [putsK_eq] at h
    obtain ⟨fn, hfn, hbody, hres, hname, hok⟩ := hf.fns f fi hfi
    have hxl := denL_length hargs
    -- the frame as the call begins
    have hT : TmRel σ E (puts args 0 .nil) { tmps := xs.toArray ++ Array.replicate (fn.ntmps - xs.toArray.size) undef, defers := [] } (xs.toArray ++ Array.replicate (fn.ntmps - xs.toArray.size) undef).size := by
      refine ⟨rfl, rfl, fun t => ?_⟩
      unfold slot
      rw [puts_get]
      by_cases c : 0 ≤ t ∧ t < 0 + args.length
      · rw [if_pos c]
        have ht : t < args.length := by omega
        have hv : args[t - 0]? = some args[t] := by simp [ht]
        rw [hv]
        obtain ⟨y, h1, h2⟩ := denL_get hargs (i := t) (v := args[t]) (by simp [ht])
        refine ⟨y, h1, ?_⟩
        have hlt : t < xs.length := by omega
        simp [Array.getD_eq_getD_getElem?, Array.getElem?_append_left, hlt]
        exact (List.getElem?_eq_some_iff.1 h2).2
      · rw [if_neg c]
        refine ⟨undef, rfl, ?_⟩
        have hge : xs.length ≤ t := by omega
        simp only [Array.getD_eq_getD_getElem?]
        rw [Array.getElem?_append_right (by simpa using hge)]
        simp only [Array.getElem?_replicate]
        split <;> rfl
    have hN : fn.ntmps ≤ (xs.toArray ++ Array.replicate (fn.ntmps - xs.toArray.size) undef).size := by simp; omega
    cases hrec : rec (.code fi.body (puts args 0 .nil)) st with
    | none => rw [hrec] at h; cases h
    | some r1 =>
      rw [hrec] at h
      obtain ⟨ex, tm', st', hr1, hwp⟩ := hr _ _ _ hrec _ (okCode_mono hN _ hok) E w _ hS hT
      subst hr1
      -- the answer's form, off one world that may be
      have hend : (ex = .normal ∨ ex = .ret) ∧ stEnd cx fi tm' st' = some r := by
        cases ex <;> first | exact ⟨.inl rfl, h⟩ | exact ⟨.inr rfl, h⟩ | cases h
      obtain ⟨hex, hend⟩ := hend
      obtain ⟨e0, a0, w0', ⟨E0, g1, g2, g3, g4⟩, _⟩ := hwp { (default : Frame) with fn := f, kind := .normal } [] []
      obtain ⟨v, x0, hrv, _, _⟩ := stEnd_sound hc g2 g3 hres hend
      refine ⟨v, st', hrv, fn, hfn, hname, .inl ⟨by rw [hbody]; rfl, calls_of_wp hfn hbody (wp_mono hwp fun e a' w' hp => ?_)⟩⟩
      obtain ⟨E', g1, g2, g3, g4⟩ := hp
      obtain ⟨v', x, hrv', h5, h6⟩ := stEnd_sound hc g2 g3 hres hend
      rw [hrv] at hrv'; cases hrv'
      subst g4
      rcases hex with rfl | rfl
      · exact ⟨g3.defers, x, h6, E', x, g1, g2, h5, rfl⟩
      · exact ⟨g3.defers, x, h6, E', x, g1, g2, h5, rfl⟩

/-- A statement whose order is drawn. -/
def DrawOK (P : Program) (cx : Cx) (σ : Nat → Option Value) (B : Nat) (w0 : World) (rec : Rec) : Prop :=
  ∀ (id : Nat) (ops : Array Oper) (tm : Tm) (st : St) (r : Res) (N : Nat) (E : Env) (w : World) (a : Act), ops.toList.all (dstLt N) = true → drawn cx rec ops.toList tm st = some r → StRel σ B w0 E st w → TmRel σ E tm a N →
    ∃ ex tm' st', r = .code ex tm' st' ∧ (Code.region id ops true).wp P (CodePost σ B w0 E N ex tm' st') a w

theorem exists_of_wp {c : Code} {E : Env} {ex : Ex} {tm' : Tm} {st' : St} (h : c.wp P (CodePost σ B w0 E N ex tm' st') a w) : ∃ E' a' w', E.Le E' ∧ StRel σ B w0 E' st' w' ∧ TmRel σ E' tm' a' N := by
  obtain ⟨e, a', w', ⟨E', h1, h2, h3, _⟩, _⟩ := h (default : Frame) [] []
  exact ⟨E', a', w', h1, h2, h3⟩

theorem code_sound (hc : CxOK P cx σ B w0) (hr : RecOK P σ B w0 rec) (hd : DrawOK P cx σ B w0 rec) {c : Code} (h : stCode c cx rec tm st = some r) : TaskOK P σ B w0 (.code c tm) st r := by
  intro N hN E w a hS hT
  cases c with
  | skip => cases h; exact ⟨.normal, tm, st, rfl, wp_skip ⟨E, .refl E, hS, hT, rfl⟩⟩
  | label l => cases h; exact ⟨.normal, tm, st, rfl, wp_label ⟨E, .refl E, hS, hT, rfl⟩⟩
  | exit id => cases h; exact ⟨.exit id, tm, st, rfl, wp_exit ⟨E, .refl E, hS, hT, rfl⟩⟩
  | goto l => cases h; exact ⟨.goto l, tm, st, rfl, wp_goto ⟨E, .refl E, hS, hT, rfl⟩⟩
  | ret => cases h; exact ⟨.ret, tm, st, rfl, wp_ret ⟨E, .refl E, hS, hT, rfl⟩⟩
  | region id ops dr =>
    cases dr with
    | false => exact region_sound hc hr hN h hS hT
    | true => exact hd id ops tm st r N E w a hN h hS hT
  | seq x y =>
    simp only [okCode, Bool.and_eq_true] at hN
    change thenB rec y (rec (.code x tm) st) = some r at h
    cases h1 : rec (.code x tm) st with
    | none => rw [h1] at h; cases h
    | some r1 =>
      rw [h1] at h
      obtain ⟨ex, tm1, st1, hr1, hwp⟩ := hr _ _ _ h1 N hN.1 E w a hS hT
      subst hr1
      cases ex with
      | normal =>
        change rec (.code y tm1) st1 = some r at h
        obtain ⟨E0, a0, w0', g1, g2, g3⟩ := exists_of_wp hwp
        obtain ⟨ex2, tm2, st2, hr2, _⟩ := hr _ _ _ h N hN.2 E0 w0' a0 g2 g3
        refine ⟨ex2, tm2, st2, hr2, wp_seq (wp_mono hwp fun e a' w' hp => ?_)⟩
        obtain ⟨E', g1, g2, g3, rfl⟩ := hp
        obtain ⟨ex3, tm3, st3, hr3, hwp3⟩ := hr _ _ _ h N hN.2 E' w' a' g2 g3
        rw [hr2] at hr3; cases hr3
        exact wp_mono hwp3 fun e a w hq => CodePost.mono g1 hq
      | exit i =>
        change some (Res.code (.exit i) tm1 st1) = some r at h
        cases h
        exact ⟨_, _, _, rfl, wp_seq (wp_mono hwp fun e a' w' hp => by obtain ⟨E', g1, g2, g3, rfl⟩ := hp; exact ⟨E', g1, g2, g3, rfl⟩)⟩
      | goto i =>
        change some (Res.code (.goto i) tm1 st1) = some r at h
        cases h
        exact ⟨_, _, _, rfl, wp_seq (wp_mono hwp fun e a' w' hp => by obtain ⟨E', g1, g2, g3, rfl⟩ := hp; exact ⟨E', g1, g2, g3, rfl⟩)⟩
      | ret =>
        change some (Res.code .ret tm1 st1) = some r at h
        cases h
        exact ⟨_, _, _, rfl, wp_seq (wp_mono hwp fun e a' w' hp => by obtain ⟨E', g1, g2, g3, rfl⟩ := hp; exact ⟨E', g1, g2, g3, rfl⟩)⟩
  | cond c x y =>
    simp only [okCode, Bool.and_eq_true] at hN
    obtain ⟨v, hv, h⟩ := obind_inv h
    obtain ⟨b, hb, h⟩ := obind_inv h
    have hev := ev_sound hT hv
    have hvb : v = .bool b := by
      unfold boolOf at hb; split at hb
      · cases hb; rfl
      · cases hb
    rw [hvb] at hev
    simp only [AV.den, Option.some.injEq] at hev
    cases b with
    | true =>
      change rec (.code x tm) st = some r at h
      obtain ⟨ex, tm1, st1, hr1, hwp⟩ := hr _ _ _ h N hN.1 E w a hS hT
      exact ⟨ex, tm1, st1, hr1, wp_cond_true hev.symm hwp⟩
    | false =>
      change rec (.code y tm) st = some r at h
      obtain ⟨ex, tm1, st1, hr1, hwp⟩ := hr _ _ _ h N hN.2 E w a hS hT
      exact ⟨ex, tm1, st1, hr1, wp_cond_false hev.symm hwp⟩
  | block id b =>
    simp only [okCode] at hN
    change inBlock id (rec (.code b tm) st) = some r at h
    cases h1 : rec (.code b tm) st with
    | none => rw [h1] at h; cases h
    | some r1 =>
      rw [h1] at h
      obtain ⟨ex, tm1, st1, hr1, hwp⟩ := hr _ _ _ h1 N hN E w a hS hT
      subst hr1
      cases ex with
      | exit i =>
        change bif_ (Nat.beq i id) _ _ = some r at h
        rw [beq_iff] at h
        by_cases e : i = id
        · subst e
          simp only [decide_true, bif_true, Option.some.injEq] at h
          subst h
          refine ⟨.normal, tm1, st1, rfl, wp_block (wp_mono hwp fun e a' w' hp => ?_)⟩
          obtain ⟨E', g1, g2, g3, rfl⟩ := hp
          simp only [toExit, Exit.inBlock, if_true]
          exact ⟨E', g1, g2, g3, rfl⟩
        · rw [decide_eq_false e] at h
          simp only [bif_false, Option.some.injEq] at h
          subst h
          refine ⟨.exit i, tm1, st1, rfl, wp_block (wp_mono hwp fun e' a' w' hp => ?_)⟩
          obtain ⟨E', g1, g2, g3, rfl⟩ := hp
          simp only [toExit, Exit.inBlock, e, if_false]
          exact ⟨E', g1, g2, g3, rfl⟩
      | normal =>
        change some (Res.code .normal tm1 st1) = some r at h
        cases h
        exact ⟨_, _, _, rfl, wp_block (wp_mono hwp fun e a' w' hp => by obtain ⟨E', g1, g2, g3, rfl⟩ := hp; exact ⟨E', g1, g2, g3, rfl⟩)⟩
      | goto i =>
        change some (Res.code (.goto i) tm1 st1) = some r at h
        cases h
        exact ⟨_, _, _, rfl, wp_block (wp_mono hwp fun e a' w' hp => by obtain ⟨E', g1, g2, g3, rfl⟩ := hp; exact ⟨E', g1, g2, g3, rfl⟩)⟩
      | ret =>
        change some (Res.code .ret tm1 st1) = some r at h
        cases h
        exact ⟨_, _, _, rfl, wp_block (wp_mono hwp fun e a' w' hp => by obtain ⟨E', g1, g2, g3, rfl⟩ := hp; exact ⟨E', g1, g2, g3, rfl⟩)⟩
  | loop b =>
    simp only [okCode] at hN
    change rec (.loop b tm) st = some r at h
    obtain ⟨ex, tm1, st1, hr1, hb⟩ := hr _ _ _ h N hN E w a hS hT
    exact ⟨ex, tm1, st1, hr1, wp_of_bodyLoop hb⟩
  | rangeFunc f ps x y => cases h
  | «scope» b => cases h
  | refuse s => cases h

theorem loop_sound (hr : RecOK P σ B w0 rec) {c : Code} (h : thenL rec c (rec (.code c tm) st) = some r) : TaskOK P σ B w0 (.loop c tm) st r := by
  intro N hN E w a hS hT
  cases h1 : rec (.code c tm) st with
  | none => rw [h1] at h; cases h
  | some r1 =>
    rw [h1] at h
    obtain ⟨ex, tm1, st1, hr1, hwp⟩ := hr _ _ _ h1 N hN E w a hS hT
    subst hr1
    cases ex with
    | normal =>
      change rec (.loop c tm1) st1 = some r at h
      obtain ⟨E0, a0, w0', g1, g2, g3⟩ := exists_of_wp hwp
      obtain ⟨ex2, tm2, st2, hr2, _⟩ := hr _ _ _ h N hN E0 w0' a0 g2 g3
      refine ⟨ex2, tm2, st2, hr2, bodyLoop_of_wp (wp_mono hwp fun e a' w' hp => ?_)⟩
      obtain ⟨E', g1, g2, g3, rfl⟩ := hp
      obtain ⟨ex3, tm3, st3, hr3, hwp3⟩ := hr _ _ _ h N hN E' w' a' g2 g3
      rw [hr2] at hr3; cases hr3
      exact fun b k cs => let ⟨e, a', w', q, r⟩ := hwp3 b k cs; ⟨e, a', w', CodePost.mono g1 q, r⟩
    | exit i =>
      change some (Res.code (.exit i) tm1 st1) = some r at h
      cases h
      exact ⟨_, _, _, rfl, bodyLoop_of_wp (wp_mono hwp fun e a' w' hp => by obtain ⟨E', g1, g2, g3, rfl⟩ := hp; exact ⟨E', g1, g2, g3, rfl⟩)⟩
    | goto i =>
      change some (Res.code (.goto i) tm1 st1) = some r at h
      cases h
      exact ⟨_, _, _, rfl, bodyLoop_of_wp (wp_mono hwp fun e a' w' hp => by obtain ⟨E', g1, g2, g3, rfl⟩ := hp; exact ⟨E', g1, g2, g3, rfl⟩)⟩
    | ret =>
      change some (Res.code .ret tm1 st1) = some r at h
      cases h
      exact ⟨_, _, _, rfl, bodyLoop_of_wp (wp_mono hwp fun e a' w' hp => by obtain ⟨E', g1, g2, g3, rfl⟩ := hp; exact ⟨E', g1, g2, g3, rfl⟩)⟩

theorem run_sound (hc : CxOK P cx σ B w0) (hf : FnsOK P cx σ B w0) (hd : ∀ rec, RecOK P σ B w0 rec → DrawOK P cx σ B w0 rec) : ∀ n, RecOK P σ B w0 (run cx n)
  | 0 => fun _ _ _ h => by cases h
  | n + 1 => fun t st r h => by
    have hr := run_sound hc hf hd n
    change stepEv t cx (run cx n) st = some r at h
    cases t with
    | code c tm => exact code_sound hc hr (hd _ hr) h
    | loop c tm => exact loop_sound hr h
    | call f args => exact stCall_sound hc hf hr h
end
end Go.Sx
