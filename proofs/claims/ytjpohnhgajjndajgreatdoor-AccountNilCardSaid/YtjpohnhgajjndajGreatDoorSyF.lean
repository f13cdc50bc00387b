import Derived.Test.YtjpohnhgajjndajGreatDoorSyER
/-! Calls; all operations. -/
namespace Go.Sy

def toExit : Ex → Exit
  | .normal => .normal
  | .exit i => .exit i
  | .goto l => .goto l
  | .ret => .ret
def RdRel (E : Env) : Option Nat → Option Nat → Prop
  | none, none => True
  | some l, some id => E.m[l]? = some (some (id, 0))
  | _, _ => False
theorem RdRel.mono {E E' : Env} (h : E.Le E') {rd r : Option Nat} (hr : RdRel E rd r) : RdRel E' rd r := by
  cases rd <;> cases r <;> first | exact hr | exact h.m _ _ hr
def CodeOut (X : Tabs) (K : Nat → Prop) (w0 : World) (Θ : Pred) (R : List Back) (E : Env) (st : St) (N : Nat) (k : Res → VC) : Exit → Act → World → Prop := fun e a' w' =>
  ∃ ex tm' ds' st' E' R', e = toExit ex ∧ R <+: R' ∧ (k (.code ex tm' ds' st')).holds Θ E'.va R' ∧ E.Le E' ∧ StRel X K w0 E' st' w' ∧ HP E E' st st' ∧ TmRel E' tm' ds' a' N
def OutV (X : Tabs) (K : Nat → Prop) (w0 : World) (Θ : Pred) (R : List Back) (E : Env) (st : St) (k : Res → VC) (y : Value) (w' : World) : Prop :=
  ∃ v st' E' R', R <+: R' ∧ (k (.val v st')).holds Θ E'.va R' ∧ E.Le E' ∧ StRel X K w0 E' st' w' ∧ HP E E' st st' ∧ v.den E' = some y
def BodyLoop (F : Fence) (P : Program) (c : Code) (Q : Exit → Act → World → Prop) (a : Act) (w : World) : Prop :=
  ∀ (b : Frame) (k : List Item) (cs : List Frame), b.roundOf = F.round → F.fn b.fn → F.room (cs.length + 1 + 0) →
    ∃ e a' w', Q e a' w' ∧ ArrivesIn (Machine.fenced P F) P (lone (b.atR a (.code c :: .inLoop c :: k)) cs w) b k cs e a' w'
theorem wp_of_bodyLoop {F : Fence} {P : Program} {c : Code} {Q : Exit → Act → World → Prop} {a : Act} {w : World} (h : BodyLoop F P c Q a w) : (Code.loop c).wpIn F 0 P Q a w :=
  fun b k cs hro hb hr => let ⟨e, a', w', q, r⟩ := h b k cs hro hb hr; ⟨e, a', w', q, .of_steps (.one (fenced_calm hb hr rfl) stepR_loop) r⟩
theorem bodyLoop_of_wp {F : Fence} {P : Program} {c : Code} {Q : Exit → Act → World → Prop} {a : Act} {w : World} (h : c.wpIn F 0 P (Exit.then (BodyLoop F P c Q) Q) a w) : BodyLoop F P c Q a w := by
  intro b k cs hro hb hr
  obtain ⟨e, a₁, w₁, hq, harr⟩ := h b (.inLoop c :: k) cs hro hb hr
  cases e with
  | normal =>
    obtain ⟨e₂, a₂, w₂, hq₂, harr₂⟩ := hq b k cs hro hb hr
    exact ⟨e₂, a₂, w₂, hq₂, .of_steps (StepsIn.trans harr (.one (fenced_calm hb hr rfl) stepR_inLoop)) harr₂⟩
  | exit id => exact ⟨_, a₁, w₁, hq, .pass (x := .inLoop c) rfl (fun _ _ => .inl (by simp)) harr⟩
  | goto l => exact ⟨_, a₁, w₁, hq, .pass (x := .inLoop c) rfl (fun _ _ => .inl (by simp)) harr⟩
  | ret => exact ⟨_, a₁, w₁, hq, .pass (x := .inLoop c) rfl (fun _ _ => .inl (by simp)) harr⟩
  | panic ch => exact ⟨_, a₁, w₁, hq, .pass (x := .inLoop c) rfl (fun _ _ => .inl (by simp)) harr⟩
  | outgrown => exact ⟨_, a₁, w₁, hq, .pass (x := .inLoop c) rfl (fun _ _ => .inl (by simp)) harr⟩

/-- What the answers to a task mean. -/
structure RecOK (X : Tabs) (K : Nat → Prop) (w0 : World) (Θ : Pred) (rec : Rec) : Prop where
  code : ∀ {c : BC} {tm : Tm} {ds : List Nat} {rd r : Option Nat} {st : St} {k : Res → VC} {E : Env} {R : List Back} {w : World} {a : Act} {N : Nat} {f : FuncId} {cd : Code}, CRel X f c cd → okCode N cd = true → RdRel E rd r → StRel X K w0 E st w → TmRel E tm ds a N →
    (rec (.code c tm ds rd) st k).holds Θ E.va R → cd.wpIn (FW r) 0 X.P (CodeOut X K w0 Θ R E st N k) a w
  loop : ∀ {c : BC} {an : Option Nat} {tm : Tm} {ds : List Nat} {rd r : Option Nat} {st : St} {k : Res → VC} {E : Env} {R : List Back} {w : World} {a : Act} {N : Nat} {f : FuncId} {cd : Code}, CRel X f c cd → okCode N cd = true → RdRel E rd r → StRel X K w0 E st w → TmRel E tm ds a N →
    (rec (.loop an c tm ds rd) st k).holds Θ E.va R → BodyLoop (FW r) X.P cd (CodeOut X K w0 Θ R E st N k) a w
  call : ∀ {f : FuncId} {args : List AV} {st : St} {k : Res → VC} {E : Env} {R : List Back} {w : World} {xs : List Value}, StRel X K w0 E st w → denL E args = some xs → (rec (.call f args) st k).holds Θ E.va R →
    OpRes X.P (OutV X K w0 Θ R E st k) ((callFunc f xs.toArray).run X.P w)
  round : ∀ {l id : Nat} {args : List AV} {st : St} {k : Res → VC} {E : Env} {R : List Back} {w : World} {xs : List Value}, StRel X K w0 E st w → E.m[l]? = some (some (id, 0)) → denL E args = some xs → (rec (.round l args) st k).holds Θ E.va R →
    OpRes X.P (OutV X K w0 Θ R E st k) ((Instr.yield id xs.toArray).run X.P w)

section
variable {X : Tabs} {K : Nat → Prop} {w0 : World} {E : Env} {st : St} {w : World} {Θ : Pred} {R : List Back} {tm : Tm} {k : Kt} {o : Oper} {rec : Rec}

theorem OutV.out {y : Value} {w' : World} (h : OutV X K w0 Θ R E st (valK k) y w') : Out X K w0 Θ R E st k y w' := h
theorem cOs_inv2 {l : List Operand} {bs : List BO} (h : cOs l = some bs) {ρ : Operand → Value} (hR : Rd E tm ρ l) : denL E (evs tm bs) = some (l.map ρ) := cOs_inv h hR
/-- A value is called. -/
theorem xCallv_out (hr : RecOK X K w0 Θ rec) (hS : StRel X K w0 E st w) {args : List AV} {v : AV} {xs : List Value} {y : Value} (h : (xCallv rec args st k v).holds Θ E.va R) (hv : v.den E = some y) (hx : denL E args = some xs) :
    ∃ d, (∀ w', (Deferred.ofValue y xs.toArray).run X.P w' = .ok d w') ∧ OpRes X.P (Out X K w0 Θ R E st k) ((invoke d.target d.args).run X.P w) := by
  unfold xCallv at h
  split at h
  · rename_i f a b
    obtain ⟨x1, x2, e1, e2, rfl⟩ := den_func' hv
    have hargs : denL E (app3 a args b) = some (x1 ++ (xs ++ x2)) := denL_append e1 (denL_append hx e2)
    have hc := hr.call hS hargs h
    refine ⟨_, fun w' => rfl, ?_⟩
    have harr : (x1.toArray ++ xs.toArray) ++ x2.toArray = (x1 ++ (xs ++ x2)).toArray := by apply Array.ext'; simp
    show OpRes X.P _ ((callFunc f ((x1.toArray ++ xs.toArray) ++ x2.toArray)).run X.P w)
    rw [harr]
    exact hc.mono fun v w h => h.out
  · rename_i l
    obtain ⟨id, hid, rfl⟩ := den_yld hv
    have hc := hr.round hS hid hx h
    refine ⟨_, fun w' => rfl, ?_⟩
    have harr : (#[] ++ xs.toArray) ++ #[] = xs.toArray := by simp
    show OpRes X.P _ ((Instr.yield id _).run X.P w)
    simp only [Array.empty_append]
    exact hc.mono fun v w h => h.out
  · exact h.elim
theorem callv_out (hr : RecOK X K w0 Θ rec) (hS : StRel X K w0 E st w) {f : Operand} {args : Array Operand} {tys : Array TypeId} {bs : List BO} {bf : BO} (hf : cO f = some bf) (hb : cOs args.toList = some bs) (ho : o.op = .call ⟨.value f, args, tys⟩)
    (h : (xCallv rec (evs tm bs) st k (ev tm bf)).holds Θ E.va R) : EffOut X K w0 Θ R E o tm st w k := by
  intro ρ hR
  have h1 := hR.get (x := f) (by rw [ho]; simp [Op.operands, Call.operands]) hf
  have h2 := cOs_inv (tm := tm) hb (E := E) (ρ := ρ) (fun x hx b hb => hR x (by rw [ho]; simp [Op.operands, Call.operands]; exact .inr (by simpa using hx)) b hb)
  obtain ⟨d, g1, g2⟩ := xCallv_out hr hS h h1 h2
  have e : (args.toList.map ρ).toArray = args.map ρ := by apply Array.ext'; simp
  rw [e] at g1
  have hrun : (execOp ρ o).run X.P w = (invoke d.target d.args).run X.P w := by
    simp [execOp, ho, resolve, g1 w]
  rw [hrun]; exact g2
theorem callf_out (hr : RecOK X K w0 Θ rec) (hS : StRel X K w0 E st w) {f : FuncId} {args : Array Operand} {tys : Array TypeId} {bs : List BO} (hb : cOs args.toList = some bs) (ho : o.op = .call ⟨.value (.func f), args, tys⟩)
    (h : (rec (.call f (evs tm bs)) st (valK k)).holds Θ E.va R) : EffOut X K w0 Θ R E o tm st w k := by
  intro ρ hR
  have h1 := hR.get (x := .func f) (b := .c (.func (.func f) [] [])) (by rw [ho]; simp [Op.operands, Call.operands]) rfl
  have h1 : ρ (.func f) = .func (.func f) #[] #[] := by
    have h0 : (AV.func (.func f) [] []).den E = some (ρ (.func f)) := h1
    obtain ⟨x1, x2, e1, e2, e⟩ := den_func' h0
    rw [e, denL_nil.1 e1, denL_nil.1 e2]
  have h2 := cOs_inv (tm := tm) hb (E := E) (ρ := ρ) (fun x hx b hb => hR x (by rw [ho]; simp [Op.operands, Call.operands]; exact .inr (by simpa using hx)) b hb)
  have g2 := hr.call hS h2 h
  have e : (args.toList.map ρ).toArray = args.map ρ := by apply Array.ext'; simp
  rw [e] at g2
  have hrun : (execOp ρ o).run X.P w = (callFunc f (args.map ρ)).run X.P w := by
    simp [execOp, ho, resolve, h1, Deferred.ofValue, invoke]
  rw [hrun]; exact g2.mono fun v w h => h.out
end
end Go.Sy
