import Derived.Test.YtlcamplkgcokjaaSxW
/-! Statements, calls. -/
namespace Go.Sx
open Go.RowKit (Below)

def toExit : Ex → Exit
  | .normal => .normal
  | .exit i => .exit i
  | .goto l => .goto l
  | .ret => .ret

def dstLt (N : Nat) (o : Oper) : Bool := match o.dst with | none => true | some d => decide (d < N)
def okCode (N : Nat) : Code → Bool
  | .region _ ops _ => ops.toList.all (dstLt N)
  | .seq a b => okCode N a && okCode N b
  | .cond _ a b => okCode N a && okCode N b
  | .block _ a => okCode N a
  | .loop a => okCode N a
  | _ => true

structure FnsOK (P : Program) (cx : Cx) (σ : Nat → Option Value) (B : Nat) (w0 : World) : Prop where
  fns : ∀ f fi, cx.fns.get f = some fi → ∃ fn, P.funcs[f]? = some fn ∧ fn.body = some fi.body ∧ fn.results.toList = fi.results ∧ (fn.name == "runtime.NumGoroutine") = false ∧ okCode fn.ntmps fi.body = true
  ext : ∀ f args v, cx.fns.get f = none → cx.ext f args = some v → ∀ (E : Env) (st : St) (w : World) (xs : List Value), StRel σ B w0 E st w → denL σ E args = some xs →
    ∃ fn, P.funcs[f]? = some fn ∧ (fn.name == "runtime.NumGoroutine") = false ∧ ∃ x, v.den σ E = some x ∧ ((fn.body.isSome = true ∧ Calls P f xs.toArray w (fun e w' => StRel σ B w0 E st w' ∧ e = .returned x)) ∨ ∃ w', StRel σ B w0 E st w' ∧ (callFunc f xs.toArray).run P w = .ok (.value x) w')
  mixed : P.follows .mixedOrders = true

section
variable {P : Program} {cx : Cx} {σ : Nat → Option Value} {B : Nat} {w0 : World} {E : Env} {st : St} {w : World} {tm : Tm} {a : Act} {N : Nat} {o : Oper}

theorem okCode_mono {N M : Nat} (h : N ≤ M) : ∀ (c : Code), okCode N c = true → okCode M c = true
  | .region _ ops _, hc => by
    simp only [okCode, List.all_eq_true] at hc ⊢
    intro o ho
    have := hc o ho
    unfold dstLt at this ⊢
    split at this
    · rfl
    · simp only [decide_eq_true_eq] at this ⊢; exact Nat.lt_of_lt_of_le this h
  | .seq a b, hc => by
    simp only [okCode, Bool.and_eq_true] at hc ⊢
    exact ⟨okCode_mono h a hc.1, okCode_mono h b hc.2⟩
  | .cond _ a b, hc => by
    simp only [okCode, Bool.and_eq_true] at hc ⊢
    exact ⟨okCode_mono h a hc.1, okCode_mono h b hc.2⟩
  | .block _ a, hc => by simp only [okCode] at hc ⊢; exact okCode_mono h a hc
  | .loop a, hc => by simp only [okCode] at hc ⊢; exact okCode_mono h a hc
  | .skip, _ | .rangeFunc .., _ | .exit _, _ | .scope _, _ | .label _, _ | .goto _, _ | .ret, _ | .refuse _, _ => rfl

/-- What a piece of code comes to. -/
def CodePost (σ : Nat → Option Value) (B : Nat) (w0 : World) (E : Env) (N : Nat) (ex : Ex) (tm' : Tm) (st' : St) : Exit → Act → World → Prop :=
  fun e a' w' => ∃ E', E.Le E' ∧ StRel σ B w0 E' st' w' ∧ TmRel σ E' tm' a' N ∧ e = toExit ex
theorem CodePost.mono {E E1 : Env} (h : E.Le E1) {ex : Ex} {tm' : Tm} {st' : St} {e : Exit} {a' : Act} {w' : World} (hp : CodePost σ B w0 E1 N ex tm' st' e a' w') : CodePost σ B w0 E N ex tm' st' e a' w' := by
  obtain ⟨E', h1, h2, h3, h4⟩ := hp
  exact ⟨E', h.trans h1, h2, h3, h4⟩

def BodyLoop (P : Program) (c : Code) (Q : Exit → Act → World → Prop) (a : Act) (w : World) : Prop :=
  ∀ (b : Frame) (k : List Item) (cs : List Frame), ∃ e a' w', Q e a' w' ∧ Arrives P (lone (b.at a (.code c :: .inLoop c :: k)) cs w) b k cs e a' w'
theorem wp_of_bodyLoop {c : Code} {Q : Exit → Act → World → Prop} (h : BodyLoop P c Q a w) : (Code.loop c).wp P Q a w :=
  fun b k cs => let ⟨e, a', w', q, r⟩ := h b k cs; ⟨e, a', w', q, .of_steps (.one step_loop) r⟩
theorem bodyLoop_of_wp {c : Code} {Q : Exit → Act → World → Prop} (h : c.wp P (Exit.then (BodyLoop P c Q) Q) a w) : BodyLoop P c Q a w := by
  intro b k cs
  obtain ⟨e, a₁, w₁, hq, harr⟩ := h b (.inLoop c :: k) cs
  cases e with
  | normal =>
    obtain ⟨e₂, a₂, w₂, hq₂, harr₂⟩ := hq b k cs
    exact ⟨e₂, a₂, w₂, hq₂, .of_steps (Steps.trans harr (.one step_inLoop)) harr₂⟩
  | exit id => exact ⟨_, a₁, w₁, hq, .pass (x := .inLoop c) rfl (fun _ _ => .inl (by simp)) harr⟩
  | goto l => exact ⟨_, a₁, w₁, hq, .pass (x := .inLoop c) rfl (fun _ _ => .inl (by simp)) harr⟩
  | ret => exact ⟨_, a₁, w₁, hq, .pass (x := .inLoop c) rfl (fun _ _ => .inl (by simp)) harr⟩
  | panic ch => exact ⟨_, a₁, w₁, hq, .pass (x := .inLoop c) rfl (fun _ _ => .inl (by simp)) harr⟩
  | outgrown => exact ⟨_, a₁, w₁, hq, .pass (x := .inLoop c) rfl (fun _ _ => .inl (by simp)) harr⟩

/-- What the evaluator's answer to a task means. -/
def TaskOK (P : Program) (σ : Nat → Option Value) (B : Nat) (w0 : World) : Task → St → Res → Prop
  | .code c tm, st, r => ∀ N, okCode N c = true → ∀ E w a, StRel σ B w0 E st w → TmRel σ E tm a N → ∃ ex tm' st', r = .code ex tm' st' ∧ c.wp P (CodePost σ B w0 E N ex tm' st') a w
  | .loop c tm, st, r => ∀ N, okCode N c = true → ∀ E w a, StRel σ B w0 E st w → TmRel σ E tm a N → ∃ ex tm' st', r = .code ex tm' st' ∧ BodyLoop P c (CodePost σ B w0 E N ex tm' st') a w
  | .call f args, st, r => ∀ E w xs, StRel σ B w0 E st w → denL σ E args = some xs → ∃ v st', r = .val v st' ∧ ∃ fn, P.funcs[f]? = some fn ∧ (fn.name == "runtime.NumGoroutine") = false ∧
      ((fn.body.isSome = true ∧ Calls P f xs.toArray w (fun e w' => ∃ E' x, E.Le E' ∧ StRel σ B w0 E' st' w' ∧ v.den σ E' = some x ∧ e = .returned x)) ∨
        ∃ E' x w', E.Le E' ∧ StRel σ B w0 E' st' w' ∧ v.den σ E' = some x ∧ (callFunc f xs.toArray).run P w = .ok (.value x) w')

def RecOK (P : Program) (σ : Nat → Option Value) (B : Nat) (w0 : World) (rec : Rec) : Prop := ∀ t st r, rec t st = some r → TaskOK P σ B w0 t st r

theorem putDK_eq {β : Type} (tm : Tm) (v : AV) (k : Tm → β) (d : Option Tmp) : putDK tm v k d = k (match d with | some d => tm.set d (some v) | none => tm) := by
  cases d with
  | none => rfl
  | some d => show forceV v (fun v => tm.setK d (some v) k) = _; rw [forceV_eq, Tr.setK_eq]
noncomputable def putD (tm : Tm) (d : Option Tmp) (v : AV) : Tm := match d with | some d => tm.set d (some v) | none => tm
theorem TmRel.putD (h : TmRel σ E tm a N) {o : Oper} (hd : dstLt N o = true) {v : AV} {x : Value} (hv : v.den σ E = some x) : TmRel σ E (putD tm o.dst v) (a.put o.dst x) N := by
  unfold dstLt at hd
  cases hdst : o.dst with
  | none => exact h
  | some d => rw [hdst] at hd; exact h.put (by simpa using hd) hv

theorem den_undef : (AV.tuple []).den σ E = some undef := rfl
theorem den_notbool (hs : ∀ i b, σ i ≠ some (.bool b)) {v : AV} {b : Bool} (h : v.den σ E = some (.bool b)) : v = .bool b := by
  cases v with
  | bool c => simp only [AV.den, Option.some.injEq, Value.bool.injEq] at h; rw [h]
  | opq i => exact absurd h (hs i b)
  | ptr p => obtain ⟨_, h, _⟩ := den_ptr' h; cases h
  | slice p n c => obtain ⟨_, _, h, _⟩ := den_slice' h; cases h
  | func f l r => obtain ⟨_, _, _, _, h⟩ := den_func' h; cases h
  | iface t v => obtain ⟨_, _, h⟩ := den_iface' h; cases h
  | map m => obtain ⟨_, h⟩ := den_map' h; cases h
  | agg l => simp only [AV.den, Option.map_eq_some_iff] at h; obtain ⟨_, _, h⟩ := h; cases h
  | tuple l => simp only [AV.den, Option.map_eq_some_iff] at h; obtain ⟨_, _, h⟩ := h; cases h
  | _ => simp [AV.den] at h
theorem wanted_sound (hs : ∀ i b, σ i ≠ some (.bool b)) (hT : TmRel σ E tm a N) (ops : Array Oper) (o : Oper) : Region.wanted o (yielded ops a.tmps) = wanted ops.toList tm o.guard := by
  unfold Region.wanted wanted
  cases hg : o.guard with
  | none => rfl
  | some g =>
    obtain ⟨j, want⟩ := g
    show (yielded ops a.tmps j == some want) = guardOf ops.toList tm (j, want)
    unfold guardOf yielded
    rw [getL_eq]
    have hj : ops.toList[j]? = ops[j]? := by simp
    rw [hj]
    cases ho : ops[j]? with
    | none => simp
    | some oj =>
      cases hd : oj.dst with
      | none => simp [hd]
      | some d =>
        obtain ⟨x, h1, h2⟩ := hT.slots d
        simp only [Option.bind_some, hd]
        have h3 : ∀ y, a.tmps[d]? = some y → y = x := by intro y hy; rw [← h2]; simp [Array.getD_eq_getD_getElem?, hy]
        cases hv : boolOf (slot tm d) with
        | some b =>
          have hb : slot tm d = .bool b := by
            unfold boolOf at hv; split at hv
            · rename_i h; cases hv; exact h
            · cases hv
          rw [hb] at h1
          simp only [AV.den, Option.some.injEq] at h1
          subst h1
          cases hs' : a.tmps[d]? with
          | none => simp [Array.getD_eq_getD_getElem?, hs', undef] at h2
          | some y =>
            have := h3 y hs'; subst this
            cases b <;> cases want <;> simp [Sx.same]
        | none =>
          have hno : ∀ b, a.tmps[d]? ≠ some (.bool b) := by
            intro b hb
            have := h3 _ hb
            rw [← this] at h1
            have := den_notbool hs h1
            rw [this] at hv; cases hv
          cases hs' : a.tmps[d]? with
          | none => simp
          | some y =>
            cases y with
            | bool b => exact absurd hs' (hno b)
            | _ => simp
end
end Go.Sx
