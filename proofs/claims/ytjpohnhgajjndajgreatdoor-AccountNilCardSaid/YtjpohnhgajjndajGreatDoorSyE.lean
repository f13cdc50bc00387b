import Derived.Test.YtjpohnhgajjndajGreatDoorSyMB
/-! Operations that change memory: what is asked of each. -/
namespace Go.Sy

/-- Activations of functions; of a round. -/
def FW : Option Nat → Fence
  | none => Fence.wide
  | some l => Fence.wide.inRound l
theorem FW_fn (r : Option Nat) (f : FuncId) : (FW r).fn f := by cases r <;> trivial
theorem FW_round (r : Option Nat) : (FW r).round = r := by cases r <;> rfl
theorem FW_depth (r : Option Nat) : (FW r).depth = none := by cases r <;> rfl
theorem FW_room (r : Option Nat) (n : Nat) : (FW r).room n := fun d h => by rw [FW_depth] at h; cases h
theorem FW_in (r : Option Nat) (l : Nat) : (FW r).inRound l = FW (some l) := by cases r <;> rfl
theorem FW_calls {r r' : Option Nat} {n : Nat} {P : Program} {f : FuncId} {args : Array Value} {w : World} {G : Ending → World → Prop} (h : CallsIn (FW r) n P f args w G) : CallsIn (FW r') n P f args w G := by
  cases r <;> cases r' <;> exact h
theorem FW_rounds {r r' : Option Nat} {n : Nat} {P : Program} {l : Nat} {f : FuncId} {tmps : Array Value} {x y : Code} {w : World} {G : Ending → World → Prop} (h : RoundIn (FW r) n P l f tmps x y w G) : RoundIn (FW r') n P l f tmps x y w G := by
  cases r <;> cases r' <;> exact h

def retOnly (G : Value → World → Prop) : Ending → World → Prop
  | .returned v, w => G v w
  | _, _ => False
/-- What an operation comes to. -/
def OpRes (P : Program) (G : Value → World → Prop) : Result Next → Prop
  | .ok (.value v) w' => G v w'
  | .ok .skip w' => G undef w'
  | .ok (.enter f args) w' => CallsIn (FW none) 0 P f args w' (retOnly G)
  | .ok (.round l f tmps x y) w' => RoundIn (FW none) 0 P l f tmps x y w' (retOnly G)
  | _ => False
theorem retOnly_mono {G G' : Value → World → Prop} (h : ∀ v w, G v w → G' v w) : ∀ e w, retOnly G e w → retOnly G' e w := by
  intro e w he
  cases e <;> first | exact h _ _ he | exact he
theorem OpRes.mono {P : Program} {G G' : Value → World → Prop} (h : ∀ v w, G v w → G' v w) {r : Result Next} (hr : OpRes P G r) : OpRes P G' r := by
  unfold OpRes at *
  split at hr
  · exact h _ _ hr
  · exact h _ _ hr
  · exact CallsIn.mono hr (retOnly_mono h)
  · exact RoundIn.mono hr (retOnly_mono h)
  · exact hr.elim
def notDefer : Op → Bool
  | .defer _ => false
  | _ => true
theorem OpRes.wpIn {P : Program} {G : Value → World → Prop} {r : Option Nat} {o : Oper} {a : Act} {w : World} {next : Act → World → Prop} {Q : Exit → Act → World → Prop} (hn : notDefer o.op = true) (h : OpRes P G ((execOp a.eval o).run P w)) (hq : ∀ v w', G v w' → next (a.put o.dst v) w') :
    o.wpIn (FW r) 0 P a w next Q := by
  have hsem : o.semAt (FW r).round a.eval = execOp a.eval o := Oper.semAt_eq _ _ _ (fun c hc => by rw [hc] at hn; cases hn)
  refine ⟨fun f _ => FW_fn r f, ?_⟩
  rw [hsem]
  generalize (execOp a.eval o).run P w = res at *
  unfold OpRes at h
  split at h
  · exact hq _ _ h
  · exact hq _ _ h
  · refine ⟨fun hd => (by rw [FW_depth] at hd; cases hd), FW_calls (CallsIn.mono h fun e w' he => ?_)⟩
    cases e <;> first | exact hq _ _ he | exact he.elim
  · refine ⟨fun hd => (by rw [FW_depth] at hd; cases hd), FW_rounds (RoundIn.mono h fun e w' he => ?_)⟩
    cases e <;> first | exact hq _ _ he | exact he.elim
  · exact h.elim

section
variable {X : Tabs} {K : Nat → Prop} {w0 : World} {E : Env} {st : St} {w : World} {Θ : Pred} {R : List Back} {tm : Tm} {k : Kt} {o : Oper}

/-- An outcome: a value and a world from which the rest goes on. -/
def Out (X : Tabs) (K : Nat → Prop) (w0 : World) (Θ : Pred) (R : List Back) (E : Env) (st : St) (k : Kt) (y : Value) (w' : World) : Prop :=
  ∃ v st' E' R', R <+: R' ∧ (k v st').holds Θ E'.va R' ∧ E.Le E' ∧ StRel X K w0 E' st' w' ∧ HP E E' st st' ∧ v.den E' = some y
theorem Out.now {v : AV} {y : Value} (h : (k v st).holds Θ E.va R) (hS : StRel X K w0 E st w) (hv : v.den E = some y) : Out X K w0 Θ R E st k y w :=
  ⟨v, st, E, R, List.prefix_rfl, h, .refl E, hS, .refl E st, hv⟩
def EffOut (X : Tabs) (K : Nat → Prop) (w0 : World) (Θ : Pred) (R : List Back) (E : Env) (o : Oper) (tm : Tm) (st : St) (w : World) (k : Kt) : Prop :=
  ∀ ρ, Rd E tm ρ o.op.operands.toList → OpRes X.P (Out X K w0 Θ R E st k) ((execOp ρ o).run X.P w)
theorem MovOut.eff {bo : BOp} (h : MovOut X K w0 Θ R E o tm bo st w k) : EffOut X K w0 Θ R E o tm st w k := by
  obtain ⟨v, st', E', h1, h2, h3, h4, h5, h6, h7, hld, h8⟩ := h
  intro ρ hR
  have hR' : Rd E' tm ρ o.op.operands.toList := fun x hx b hb => den_mono h2 _ (hR x hx b hb)
  obtain ⟨E3, y, w3, g1, g2, g3, g4, g5, g6⟩ := h8 E' st' w ρ (.refl E') (fun k hk hk' => ⟨h7 k hk hk', rfl, rfl⟩) h3 hR' hld
  rw [g3]
  refine ⟨v, st', E3, R, List.prefix_rfl, by rw [g2]; exact h1, h2.trans g1, g4, fun j hj => ?_, g5⟩
  obtain ⟨a, b, c, d⟩ := h4 j hj
  exact ⟨g6 j (.inl (List.getElem?_eq_some_iff.1 hj).1) a, b, c, d⟩
end
end Go.Sy
