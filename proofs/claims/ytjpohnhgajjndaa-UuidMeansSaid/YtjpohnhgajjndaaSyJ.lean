import Derived.Test.YtjpohnhgajjndaaSyGC
/-! Statements. -/
namespace Go.Sy
structure FnsOK (X : Tabs) (K : Nat → Prop) (w0 : World) (Θ : Pred) : Prop where
  fns : ∀ f fi, X.cx.fns.get f = some fi → ∃ fn c, X.P.funcs[f]? = some fn ∧ fn.body = some c ∧ cRess X.cx.und X.cx.size fn.results.toList = some fi.results ∧ CRel X f fi.body c ∧ (fn.name == "runtime.NumGoroutine") = false ∧ okCode fn.ntmps c = true
  con : ∀ f c, X.cx.con.get f = some c → ∀ {args : List AV} {st : St} {k : Kt} {E : Env} {R : List Back} {w : World} {xs : List Value}, StRel X K w0 E st w → denL E args = some xs → (c args st k).holds Θ E.va R → OpRes X.P (Out X K w0 Θ R E st k) ((callFunc f xs.toArray).run X.P w)

section
variable {X : Tabs} {K : Nat → Prop} {w0 : World} {E : Env} {st : St} {w : World} {Θ : Pred} {R : List Back} {tm : Tm} {rec : Rec} {N : Nat} {ds : List Nat} {a : Act} {k k' : Res → VC} {rd r : Option Nat} {fid : FuncId}

theorem CodeOut.now {ex : Ex} (hS : StRel X K w0 E st w) (hT : TmRel E tm ds a N) (h : (k (.code ex tm ds st)).holds Θ E.va R) : CodeOut X K w0 Θ R E st N k (toExit ex) a w :=
  ⟨ex, tm, ds, st, E, R, rfl, List.prefix_rfl, h, .refl E, hS, .refl E st, hT⟩
theorem CodeOut.trans {E1 : Env} {st1 : St} {R1 : List Back} {e : Exit} {a' : Act} {w' : World} (h : CodeOut X K w0 Θ R1 E1 st1 N k e a' w') (hR : R <+: R1) (hE : E.Le E1) (hH : HP E E1 st st1) : CodeOut X K w0 Θ R E st N k e a' w' := by
  obtain ⟨ex, tm, ds, st', E', R', h1, h2, h3, h4, h5, h6, h7⟩ := h
  exact ⟨ex, tm, ds, st', E', R', h1, hR.trans h2, h3, hE.trans h4, h5, hH.trans h6, h7⟩

/-! ### Scopes -/
theorem stepR_scope {P : Program} {b : Frame} {kk : List Item} {cs : List Frame} {c : Code} : step P (lone (b.atR a (.code (.scope c) :: kk)) cs w) = .next (lone (b.atR a (.code c :: .inScope c :: kk)) cs w) :=
  step_lone_go (by simp [stepG, stepG.exec, Frame.atR])
theorem stepR_inScope {P : Program} {b : Frame} {kk : List Item} {cs : List Frame} {c : Code} : step P (lone (b.atR a (.inScope c :: kk)) cs w) = .next (lone (b.atR a kk) cs w) :=
  step_lone_go (by simp [stepG, stepG.exec, Frame.atR])
def InScope (F : Fence) (P : Program) (c x : Code) (Q : Exit → Act → World → Prop) (a : Act) (w : World) : Prop :=
  ∀ (b : Frame) (kk : List Item) (cs : List Frame), b.roundOf = F.round → F.fn b.fn → F.room (cs.length + 1 + 0) →
    ∃ e a' w', Q e a' w' ∧ ArrivesIn (Machine.fenced P F) P (lone (b.atR a (.code x :: .inScope c :: kk)) cs w) b kk cs e a' w'
def scopePost (F : Fence) (P : Program) (c : Code) (Q : Exit → Act → World → Prop) : Exit → Act → World → Prop
  | .goto l, a, w => match findLabel c l with
    | some rest => InScope F P c rest Q a w
    | none => Q (.goto l) a w
  | e, a, w => Q e a w
theorem inScope_of_wp {F : Fence} {P : Program} {c x : Code} {Q : Exit → Act → World → Prop} (h : x.wpIn F 0 P (scopePost F P c Q) a w) : InScope F P c x Q a w := by
  intro b kk cs hro hb hr
  obtain ⟨e, a₁, w₁, hq, harr⟩ := h b (.inScope c :: kk) cs hro hb hr
  cases e with
  | normal => exact ⟨.normal, a₁, w₁, hq, StepsIn.trans harr (.one (fenced_calm hb hr rfl) stepR_inScope)⟩
  | exit id =>
    have hx : exitTo id (.inScope c :: kk) = exitTo id kk := by simp [exitTo]
    exact ⟨.exit id, a₁, w₁, hq, fun k' hk => harr.1 k' (by rw [hx]; exact hk), fun hr' hk => harr.2 hr' (by rw [hx]; exact hk)⟩
  | goto l =>
    unfold scopePost at hq
    cases hf : findLabel c l with
    | some rest =>
      simp only [hf] at hq
      obtain ⟨e₂, a₂, w₂, hq₂, harr₂⟩ := hq b kk cs hro hb hr
      exact ⟨e₂, a₂, w₂, hq₂, .of_steps (harr.1 _ (by simp [gotoIn, hf])) harr₂⟩
    | none =>
      simp only [hf] at hq
      have hx : gotoIn l (.inScope c :: kk) = gotoIn l kk := by simp [gotoIn, hf]
      exact ⟨.goto l, a₁, w₁, hq, fun k' hk => harr.1 k' (by rw [hx]; exact hk), fun hr' hk => harr.2 hr' (by rw [hx]; exact hk)⟩
  | ret => exact ⟨_, a₁, w₁, hq, harr⟩
  | panic ch => exact ⟨_, a₁, w₁, hq, harr⟩
  | outgrown => exact ⟨_, a₁, w₁, hq, harr⟩
theorem wpIn_scope {F : Fence} {P : Program} {c : Code} {Q : Exit → Act → World → Prop} (h : InScope F P c c Q a w) : (Code.scope c).wpIn F 0 P Q a w :=
  fun b kk cs hro hb hr => let ⟨e, a', w', q, r⟩ := h b kk cs hro hb hr; ⟨e, a', w', q, .of_steps (.one (fenced_calm hb hr rfl) stepR_scope) r⟩
theorem findLab_rel (l : Nat) : ∀ (cd : Code), (∀ rest, findLabel cd l = some rest → findLab l (cCode X.cx.und X.cx.size X.cx.zero fid cd) = some (cCode X.cx.und X.cx.size X.cx.zero fid rest) ∧ ∀ N, okCode N cd = true → okCode N rest = true) ∧ (findLabel cd l = none → findLab l (cCode X.cx.und X.cx.size X.cx.zero fid cd) = none) := by
  intro cd
  induction cd with
  | seq a b iha ihb =>
    have e : findLab l (cCode X.cx.und X.cx.size X.cx.zero fid (.seq a b)) = Option.rec (findLab l (cCode X.cx.und X.cx.size X.cx.zero fid b)) (fun r => some (.seq r (cCode X.cx.und X.cx.size X.cx.zero fid b))) (findLab l (cCode X.cx.und X.cx.size X.cx.zero fid a)) := rfl
    rw [e]
    cases ha : findLabel a l with
    | some ra =>
      obtain ⟨h1, h2⟩ := iha.1 ra ha
      refine ⟨fun rest hr => ?_, fun hr => ?_⟩
      · simp [findLabel, ha] at hr
        subst hr
        rw [h1]
        refine ⟨rfl, fun N hN => ?_⟩
        simp only [okCode, Bool.and_eq_true] at hN ⊢
        exact ⟨h2 N hN.1, hN.2⟩
      · simp [findLabel, ha] at hr
    | none =>
      have h0 := iha.2 ha
      rw [h0]
      refine ⟨fun rest hr => ?_, fun hr => ?_⟩
      · simp [findLabel, ha] at hr
        obtain ⟨h1, h2⟩ := ihb.1 rest hr
        refine ⟨h1, fun N hN => ?_⟩
        simp only [okCode, Bool.and_eq_true] at hN
        exact h2 N hN.2
      · simp [findLabel, ha] at hr
        exact ihb.2 hr
  | label m =>
    have e : findLab l (cCode X.cx.und X.cx.size X.cx.zero fid (.label m)) = bif_ (Nat.beq m l) (some .skip) none := rfl
    rw [e, beq_iff]
    by_cases c : m = l
    · rw [decide_eq_true c]
      refine ⟨fun rest hr => ?_, fun hr => ?_⟩
      · simp [findLabel, c] at hr
        subst hr
        exact ⟨rfl, fun _ _ => rfl⟩
      · simp [findLabel, c] at hr
    · rw [decide_eq_false c]
      refine ⟨fun rest hr => ?_, fun hr => rfl⟩
      simp [findLabel, c] at hr
  | cond c x y _ _ =>
    refine ⟨fun rest hr => (by simp [findLabel] at hr), fun _ => ?_⟩
    change findLab l (Option.rec .bad (fun c => .cond c _ _) (cO c)) = none
    cases cO c <;> rfl
  | region id ops d =>
    refine ⟨fun rest hr => (by simp [findLabel] at hr), fun _ => ?_⟩
    cases d <;> rfl
  | rangeFunc f ps x y _ _ =>
    refine ⟨fun rest hr => (by simp [findLabel] at hr), fun _ => ?_⟩
    change findLab l (Option.rec .bad (fun f => .rngf fid f _ _ _) (cO f)) = none
    cases cO f <;> rfl
  | _ => exact ⟨fun rest hr => (by simp [findLabel] at hr), fun _ => rfl⟩
theorem scope_ok (hr : RecOK X K w0 Θ rec) {cd : Code} (hN : okCode N cd = true) : ∀ (f : Nat) (x : Code) (tm : Tm) (ds : List Nat) (st st0 : St) (E E0 : Env) (R R0 : List Back) (a : Act) (w : World), okCode N x = true → RdRel E rd r → StRel X K w0 E st w → TmRel E tm ds a N → R0 <+: R → E0.Le E → HP E0 E st0 st →
    (rec (.code (cCode X.cx.und X.cx.size X.cx.zero fid x) tm ds rd) st (scopeK rec (cCode X.cx.und X.cx.size X.cx.zero fid cd) rd k f)).holds Θ E.va R → InScope (FW r) X.P cd x (CodeOut X K w0 Θ R0 E0 st0 N k) a w := by
  intro f
  induction f with
  | zero =>
    intro x tm ds st st0 E E0 R R0 a w hx hrd hS hT hR hE hH h
    refine inScope_of_wp (wpIn_mono (hr.code (f := fid) rfl hx hrd hS hT h) fun e a' w' hq => ?_)
    obtain ⟨ex, tm', ds', st', E', R', _, _, hk, _⟩ := hq
    exact hk.elim
  | succ f ih =>
    intro x tm ds st st0 E E0 R R0 a w hx hrd hS hT hR hE hH h
    refine inScope_of_wp (wpIn_mono (hr.code (f := fid) rfl hx hrd hS hT h) fun e a' w' hq => ?_)
    obtain ⟨ex, tm', ds', st', E', R', rfl, g1, hk, g2, g3, g4, g5⟩ := hq
    cases ex with
    | goto l =>
      have hk : (Option.rec (k (.code (.goto l) tm' ds' st')) (fun c => rec (.code c tm' ds' rd) st' (scopeK rec (cCode X.cx.und X.cx.size X.cx.zero fid cd) rd k f)) (findLab l (cCode X.cx.und X.cx.size X.cx.zero fid cd)) : VC).holds Θ E'.va R' := hk
      show scopePost (FW r) X.P cd _ (.goto l) a' w'
      unfold scopePost
      cases hf : findLabel cd l with
      | some rest =>
        obtain ⟨h1, h2⟩ := (findLab_rel (X := X) (fid := fid) l cd).1 rest hf
        rw [h1] at hk
        simp only [hf]
        exact ih rest tm' ds' st' st0 E' E0 R' R0 a' w' (h2 N hN) (hrd.mono g2) g3 g5 (hR.trans g1) (hE.trans g2) (hH.trans g4) hk
      | none =>
        rw [(findLab_rel (X := X) (fid := fid) l cd).2 hf] at hk
        simp only [hf]
        exact ⟨.goto l, tm', ds', st', E', R', rfl, hR.trans g1, hk, hE.trans g2, g3, hH.trans g4, g5⟩
    | normal => exact ⟨.normal, tm', ds', st', E', R', rfl, hR.trans g1, hk, hE.trans g2, g3, hH.trans g4, g5⟩
    | exit i => exact ⟨.exit i, tm', ds', st', E', R', rfl, hR.trans g1, hk, hE.trans g2, g3, hH.trans g4, g5⟩
    | ret => exact ⟨.ret, tm', ds', st', E', R', rfl, hR.trans g1, hk, hE.trans g2, g3, hH.trans g4, g5⟩
end
end Go.Sy
