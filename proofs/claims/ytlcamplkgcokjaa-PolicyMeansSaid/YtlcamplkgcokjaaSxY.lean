import Derived.Test.YtlcamplkgcokjaaSxX
import Derived.Tactics
/-! Operations with calls; rows of operations. -/
namespace Go.Sx
open Go.RowKit (Below)
section
variable {P : Program} {cx : Cx} {σ : Nat → Option Value} {B : Nat} {w0 : World} {E : Env} {st : St} {w : World} {tm : Tm} {a : Act} {N : Nat} {o : Oper} {rec : Rec} {k : Kt Res} {r : Res}

/-- The operation, wherever it stands, puts v's value, and leaves st'. -/
def OperOK (P : Program) (σ : Nat → Option Value) (B : Nat) (w0 : World) (E : Env) (o : Oper) (a : Act) (w : World) (v : AV) (st' : St) : Prop :=
  (∃ E' x w', E.Le E' ∧ StRel σ B w0 E' st' w' ∧ v.den σ E' = some x) ∧
  ∀ (next : Act → World → Prop) (Q : Exit → Act → World → Prop), (∀ E' x w', E.Le E' → StRel σ B w0 E' st' w' → v.den σ E' = some x → next (a.put o.dst x) w') → o.wp P a w next Q

theorem OpOK.oper {v : AV} {st' : St} (h : OpOK P σ B w0 E w o a v st') : OperOK P σ B w0 E o a w v st' := by
  obtain ⟨E', x, w', h1, h2, h3, h4⟩ := h
  refine ⟨⟨E', x, w', h1, h2, h3⟩, fun next Q hn => ?_⟩
  unfold Oper.wp
  rcases h4 with h4 | ⟨h4, rfl⟩
  · rw [h4]; exact hn E' x w' h1 h2 h3
  · rw [h4]; exact hn E' undef w' h1 h2 h3

theorem asFunc_inv {v : AV} {p : FuncId × List AV × List AV} (h : asFunc v = some p) : v = .func (.func p.1) p.2.1 p.2.2 := by
  unfold asFunc at h; split at h
  · cases h; rfl
  · cases h

theorem opK_sound (hc : CxOK P cx σ B w0) (hr : RecOK P σ B w0 rec) (hS : StRel σ B w0 E st w) (hT : TmRel σ E tm a N) {op : Op} (ho : o.op = op) (h : opK op cx rec tm st k = some r) :
    ∃ v st', k v st' = some r ∧ OperOK P σ B w0 E o a w v st' := by
  by_cases hcall : ∃ c, op = .call c
  · obtain ⟨c, rfl⟩ := hcall
    obtain ⟨cl, args, tys⟩ := c
    change callee cx rec tm st args.toList tys.toList k cl = some r at h
    unfold callee at h
    split at h
    · obtain ⟨vs, hvs, h⟩ := obind_inv h
      obtain ⟨v, st', h1, h2⟩ := builtin_sound hc hS hT hvs h ho
      exact ⟨v, st', h1, h2.oper⟩
    · rename_i f
      obtain ⟨fv, hfv, h⟩ := obind_inv h
      obtain ⟨p, hp, h⟩ := obind_inv h
      obtain ⟨vs, hvs, h⟩ := obind_inv h
      have hfd := ev_sound hT hfv
      rw [asFunc_inv hp] at hfd
      obtain ⟨x1, x2, e1, e2, hfe⟩ := den_func' hfd
      have hargs : denL σ E (app3 p.2.1 vs p.2.2) = some (x1 ++ (args.toList.map a.eval ++ x2)) := denL_append e1 (denL_append (evs_sound hT hvs) e2)
      unfold afterCall at h
      split at h
      · rename_i v st' hrec
        obtain ⟨v', st'', hv, fn, hfn, hname, hcase⟩ := hr _ _ _ hrec E w _ hS hargs
        cases hv
        have hex : ∃ E' x w', E.Le E' ∧ StRel σ B w0 E' st' w' ∧ v.den σ E' = some x := by
          rcases hcase with ⟨_, hcalls⟩ | ⟨E', x, w', g1, g2, g3, _⟩
          · obtain ⟨e, w', fr, ⟨E', x, g1, g2, g3, _⟩, _⟩ := hcalls []
            exact ⟨E', x, w', g1, g2, g3⟩
          · exact ⟨E', x, w', g1, g2, g3⟩
        refine ⟨v, st', h, hex, fun next Q hn => ?_⟩
        have harr : (x1.toArray ++ args.map a.eval) ++ x2.toArray = (x1 ++ (args.toList.map a.eval ++ x2)).toArray := by apply Array.ext'; simp
        have hrun : (execOp a.eval o).run P w = (callFunc p.1 ((x1.toArray ++ args.map a.eval) ++ x2.toArray)).run P w := by
          simp [execOp, ho, resolve, hfe, Deferred.ofValue, invoke]
        unfold Oper.wp
        rw [hrun, harr]
        rcases hcase with ⟨hb, hcalls⟩ | ⟨E', x, w', g1, g2, g3, g4⟩
        · have hcf : (callFunc p.1 (x1 ++ (args.toList.map a.eval ++ x2)).toArray).run P w = .ok (.enter p.1 (x1 ++ (args.toList.map a.eval ++ x2)).toArray) w := by
            have hn' : fn.name ≠ "runtime.NumGoroutine" := by simpa using hname
            have hb' : ¬ fn.body = none := by intro e; rw [e] at hb; cases hb
            simp [callFunc, program, Sem.run, hfn, hn', hb']
          rw [hcf, Oper.upon_enter]
          refine hcalls.mono fun e w' ⟨E', x, g1, g2, g3, g4⟩ => ?_
          subst g4
          exact hn E' x w' g1 g2 g3
        · rw [g4]; exact hn E' x w' g1 g2 g3
      · cases h
    · cases h
  · have h' : xop op cx tm st k = some r := by
      cases op <;> first | exact h | exact absurd ⟨_, rfl⟩ hcall
    obtain ⟨v, st', h1, h2⟩ := xop_sound hc hS hT ho h'
    exact ⟨v, st', h1, h2.oper⟩

theorem wpList_mono {ops : Array Oper} {Q Q' : Exit → Act → World → Prop} (h : ∀ e a w, Q e a w → Q' e a w) : ∀ (l : List Oper) (a : Act) (w : World), wpList P ops Q l a w → wpList P ops Q' l a w
  | [], a, w, hp => h _ _ _ hp
  | o :: l, a, w, hp => by
    simp only [wpList] at hp ⊢
    split at hp
    · rename_i hw
      simp only [hw, if_true]
      rcases hp with hp | ⟨h1, a0, w0, h2⟩
      · refine .inl ?_
        have := Oper.wp_mono (Q := Q) (fun a w h' => wpList_mono h l a w h') hp
        unfold Oper.wp at this ⊢
        generalize (execOp a.eval o).run P w = res at *
        cases res with
        | ok n w' =>
          cases n <;> simp only [Oper.upon] at this ⊢ <;> first
            | exact this
            | exact this.mono fun e w'' he => by cases e <;> first | exact he | exact h _ _ _ he | (obtain ⟨a0, w0, hq⟩ := he; exact ⟨a0, w0, h _ _ _ hq⟩)
        | halt x w' => cases x <;> simp only [Oper.upon] at this ⊢ <;> first | exact this | exact h _ _ _ this
      · exact .inr ⟨h1, a0, w0, h _ _ _ h2⟩
    · rename_i hw
      simp only [hw]
      exact wpList_mono h l _ _ hp

theorem opsL_sound (hc : CxOK P cx σ B w0) (hr : RecOK P σ B w0 rec) (ops : Array Oper) : ∀ (l : List Oper) (tm : Tm) (st : St) (E : Env) (w : World) (a : Act), (∀ o ∈ l, dstLt N o = true) → opsL cx rec ops.toList l tm st = some r →
    StRel σ B w0 E st w → TmRel σ E tm a N → ∃ tm' st', r = .code .normal tm' st' ∧ wpList P ops (CodePost σ B w0 E N .normal tm' st') l a w
  | [], tm, st, E, w, a, _, h, hS, hT => by
    change some (Res.code .normal tm st) = some r at h
    cases h
    exact ⟨tm, st, rfl, E, .refl E, hS, hT, rfl⟩
  | o :: l, tm, st, E, w, a, hd, h, hS, hT => by
    have hdo := hd o (by simp)
    have hdl := fun x hx => hd x (List.mem_cons_of_mem _ hx)
    change (Bool.rec (motive := fun _ => Option Res) (putDK tm (.tuple []) (fun tm => opsL cx rec ops.toList l tm st) o.dst) (opK o.op cx rec tm st fun v st => putDK tm v (fun tm => opsL cx rec ops.toList l tm st) o.dst) (wanted ops.toList tm o.guard)) = some r at h
    have hw := wanted_sound hc.sigb hT ops o
    cases hwv : wanted ops.toList tm o.guard with
    | false =>
      rw [hwv] at h
      change putDK _ _ _ _ = some r at h
      rw [putDK_eq] at h
      obtain ⟨tm', st', h1, h2⟩ := opsL_sound hc hr ops l _ st E w _ hdl h hS (hT.putD hdo den_undef)
      refine ⟨tm', st', h1, ?_⟩
      simp only [wpList, hw, hwv, Bool.false_eq_true, if_false]
      exact h2
    | true =>
      rw [hwv] at h
      change opK o.op cx rec tm st _ = some r at h
      obtain ⟨v, st1, h1, h2⟩ := opK_sound hc hr hS hT rfl h
      rw [putDK_eq] at h1
      -- the rest's answer does not hang on what the world is: take it at each
      have key : ∀ E' x w', E.Le E' → StRel σ B w0 E' st1 w' → v.den σ E' = some x → ∃ tm' st', r = .code .normal tm' st' ∧ wpList P ops (CodePost σ B w0 E' N .normal tm' st') l (a.put o.dst x) w' :=
        fun E' x w' g1 g2 g3 => opsL_sound hc hr ops l _ st1 E' w' _ hdl h1 g2 ((hT.mono g1).putD hdo g3)
      obtain ⟨⟨E0, x0, w0', g1, g2, g3⟩, h3⟩ := h2
      obtain ⟨tm', st', hres, _⟩ := key E0 x0 w0' g1 g2 g3
      refine ⟨tm', st', hres, ?_⟩
      simp only [wpList, hw, hwv, if_true]
      refine .inl (h3 _ _ fun E' x w' g1 g2 g3 => ?_)
      obtain ⟨tm2, st2, hres2, hwp⟩ := key E' x w' g1 g2 g3
      rw [hres] at hres2; cases hres2
      exact wpList_mono (fun e a w hp => CodePost.mono g1 hp) _ _ _ hwp
end
end Go.Sx
