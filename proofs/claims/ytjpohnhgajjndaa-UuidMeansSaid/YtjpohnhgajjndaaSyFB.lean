import Derived.Test.YtjpohnhgajjndaaSyFA
import Derived.TacticsIn
/-! Guards; rows of operations. -/
namespace Go.Sy
section
variable {X : Tabs} {K : Nat → Prop} {w0 : World} {E : Env} {st : St} {w : World} {Θ : Pred} {R : List Back} {tm : Tm} {o : Oper} {rec : Rec}

/-- A guard's name's value is so, or not. -/
def isB (pol : Bool) : Value → Bool
  | .bool b => b == pol
  | _ => false
theorem guardV_inv {pol : Bool} {y n : St → VC} {v : AV} (h : (guardV pol st y n v).holds Θ E.va R) (hf : FOK E.va st.facts) (hv : okv E v) :
    ∃ f t, FOK E.va f ∧ (∀ E' x, E.Le E' → v.den E' = some x → isB pol x = t) ∧ ((t = true ∧ (y (st.withF f)).holds Θ E.va R) ∨ (t = false ∧ (n (st.withF f)).holds Θ E.va R)) := by
  unfold guardV at h
  split at h
  · rename_i b
    refine ⟨st.facts, b == pol, hf, fun E' x _ hx => by cases hx; rfl, ?_⟩
    rw [withF_self]
    have h : (Bool.rec (n st) (y st) (same pol b) : VC).holds Θ E.va R := h
    cases b <;> cases pol <;> first | exact .inl ⟨rfl, h⟩ | exact .inr ⟨rfl, h⟩
  · rename_i c
    obtain ⟨b, hc, hall⟩ := cnd_inv hv
    cases pol with
    | true =>
      have h : (brK c st y n).holds Θ E.va R := h
      obtain ⟨f, hf', h⟩ := brK_inv h hf hc
      refine ⟨f, b, hf', fun E' x hE hx => by rw [hall E' x hE hx]; cases b <;> rfl, ?_⟩
      rcases h with ⟨h1, h2⟩ | ⟨h1, h2⟩
      · exact .inl ⟨h1, h2⟩
      · exact .inr ⟨h1, h2⟩
    | false =>
      have h : (brK c st n y).holds Θ E.va R := h
      obtain ⟨f, hf', h⟩ := brK_inv h hf hc
      refine ⟨f, !b, hf', fun E' x hE hx => by rw [hall E' x hE hx]; cases b <;> rfl, ?_⟩
      rcases h with ⟨h1, h2⟩ | ⟨h1, h2⟩
      · exact .inr ⟨by rw [h1]; rfl, h2⟩
      · exact .inl ⟨by rw [h1]; rfl, h2⟩
  · exact h.elim
  · rename_i h1 h2 h3
    refine ⟨st.facts, false, hf, fun E' x _ hx => ?_, .inr ⟨rfl, by rw [withF_self]; exact h⟩⟩
    cases x <;> try rfl
    rename_i b
    rcases den_bool hx with e | ⟨t, e, _⟩
    · exact absurd e (h1 b)
    · exact absurd e (h2 t)
/-- What a guard comes to, by the value of its name. -/
def wantB (all : List Oper) (g : Option (Nat × Bool)) (val : Nat → Value) : Bool :=
  match g with
  | none => true
  | some (j, want) => match all[j]? with
    | some oj => match oj.dst with
      | some d => isB want (val d)
      | none => false
    | none => false
theorem wanted_eq (ops : Array Oper) (o : Oper) (tmps : Array Value) : Region.wanted o (yielded ops tmps) = wantB ops.toList o.guard (fun d => tmps.getD d undef) := by
  unfold Region.wanted wantB
  cases hg : o.guard with
  | none => rfl
  | some g =>
    obtain ⟨j, want⟩ := g
    simp only
    unfold yielded
    have hj : ops.toList[j]? = ops[j]? := by simp
    rw [hj]
    cases ho : ops[j]? with
    | none => rfl
    | some oj =>
      simp only [Option.bind_some]
      cases hd : oj.dst with
      | none => rfl
      | some d =>
        simp only [Option.bind_some]
        cases hs : tmps[d]? with
        | none => simp [Array.getD_eq_getD_getElem?, hs, undef, isB]
        | some y =>
          simp only [Array.getD_eq_getD_getElem?, hs, Option.getD_some]
          cases y with
          | bool b => cases b <;> cases want <;> rfl
          | _ => rfl
noncomputable def gName (all : List Oper) (o : Oper) : Option Nat :=
  match o.guard with
  | some g => match getL g.1 all with
    | some oj => oj.dst
    | none => none
  | none => none
/-- A guard: as in the text, the names' values being v's. -/
theorem guardK_inv {all : List Oper} {y n : St → VC} (hok : grdOK all o.guard = true) (h : (guardK tm (grdP all o.guard) st y n).holds Θ E.va R) (hf : FOK E.va st.facts) (hO : Oks E tm) :
    ∃ f t, FOK E.va f ∧ (∀ (E' : Env) (val : Nat → Value), E.Le E' → (∀ d, gName all o = some d → (slot tm (pth d)).den E' = some (val d)) → wantB all o.guard val = t) ∧ ((t = true ∧ (y (st.withF f)).holds Θ E.va R) ∨ (t = false ∧ (n (st.withF f)).holds Θ E.va R)) := by
  unfold grdP grdOK gName wantB at *
  cases hg : o.guard with
  | none =>
    rw [hg] at h
    exact ⟨st.facts, true, hf, fun _ _ _ _ => rfl, .inl ⟨rfl, by rw [withF_self]; exact h⟩⟩
  | some g =>
    obtain ⟨j, want⟩ := g
    rw [hg] at h hok
    simp only [getL_eq] at h hok ⊢
    cases hj : all[j]? with
    | none => rw [hj] at hok; cases hok
    | some oj =>
      rw [hj] at h hok
      simp only at h hok ⊢
      cases hd : oj.dst with
      | none => rw [hd] at hok; cases hok
      | some d =>
        rw [hd] at h
        have h : (guardV want st y n (slot tm (pth d))).holds Θ E.va R := h
        obtain ⟨f, t, g1, g2, g3⟩ := guardV_inv h hf (hO d)
        exact ⟨f, t, g1, fun E' val hE hv => g2 E' _ hE (hv d rfl), g3⟩

theorem putDK_eq (tm : Tm) (v : AV) (k : Tm → VC) (d : Option Px) : putDK tm v k d = k (match d with | some d => Tr.put d tm (some v) | none => tm) := by
  cases d with
  | none => rfl
  | some d => show forceV v (fun v => Tr.setP d tm (some v) k) = _; rw [forceV_eq, Tr.setP_eq]
noncomputable def putD (tm : Tm) (d : Option Tmp) (v : AV) : Tm := match d with | some d => Tr.put (pth d) tm (some v) | none => tm
theorem putDK_dst (tm : Tm) (v : AV) (k : Tm → VC) (d : Option Tmp) : putDK tm v k (dstP d) = k (putD tm d v) := by
  rw [putDK_eq]; cases d <;> rfl
theorem TmRel.putD {ds : List Nat} {a : Act} {N : Nat} (h : TmRel E tm ds a N) {o : Oper} (hd : dstLt N o = true) {v : AV} {x : Value} (hv : v.den E = some x) : TmRel E (putD tm o.dst v) ds (a.put o.dst x) N := by
  unfold dstLt at hd
  cases hdst : o.dst with
  | none => exact h
  | some d => rw [hdst] at hd; exact h.put (by simpa using hd) hv
theorem TmRel.oks {ds : List Nat} {a : Act} {N : Nat} (h : TmRel E tm ds a N) : Oks E tm := fun t => let ⟨_, h1, _⟩ := h.rel.slots t; okv_of h1
theorem TmRel.rd {ds : List Nat} {a : Act} {N : Nat} (h : TmRel E tm ds a N) (l : List Operand) : Rd E tm a.eval l := Rd.act fun t _ => by
  obtain ⟨x, h1, h2⟩ := h.rel.slots t; rw [h1, h2]
theorem about_FW (r : Option Nat) (o : Oper) (w : World) (ρ : Operand → Value) : ∀ f, o.about X.P w ρ = some f → (FW r).fn f := fun f _ => FW_fn r f
/-- An operation's code, made ready. -/
theorem cOper_inv {und : Tr TypeDesc} {size : Tr Nat} {zero : Tr (List AV)} {all : List Oper} {k : AV → St → VC} {cx : Cx} (h : (xop (cOper und size zero all o).op cx rec tm st k).holds Θ E.va R) :
    grdOK all o.guard = true ∧ ∃ b, cOp und size zero o.type o.op = some b ∧ (cOper und size zero all o).op = b := by
  unfold cOper at h ⊢
  simp only at h ⊢
  cases hg : grdOK all o.guard with
  | false => rw [hg] at h; exact h.elim
  | true =>
    rw [hg] at h
    simp only [bif_true] at h ⊢
    cases hb : cOp und size zero o.type o.op with
    | none => rw [hb] at h; exact h.elim
    | some b => exact ⟨trivial, b, rfl, rfl⟩
theorem grd_of {all : List Oper} {y n : St → VC} : grdOK all o.guard = false → guardK tm (grdP all o.guard) st y n = y st := by
  intro h
  unfold grdOK at h
  unfold grdP guardK
  cases hg : o.guard with
  | none => rfl
  | some g =>
    rw [hg] at h
    cases hj : getL g.1 all with
    | none => simp only [hj]
    | some oj =>
      simp only [hj] at h ⊢
      cases hd : oj.dst with
      | none => simp only
      | some d => rw [hd] at h; cases h

theorem ops_ok (hc : CxOK X K w0) (hr : RecOK X K w0 Θ rec) (all : List Oper) (ops : Array Oper) (hall : all = ops.toList) {N : Nat} {r : Option Nat} {ds : List Nat} {k : Res → VC} : ∀ (l : List Oper) (tm : Tm) (st st0 : St) (E E0 : Env) (R R0 : List Back) (w : World) (a : Act), (∀ o ∈ l, dstLt N o = true) → StRel X K w0 E st w → TmRel E tm ds a N → E0.Le E → HP E0 E st0 st → R0 <+: R →
    (opsK X.cx rec (mapL (cOper X.cx.und X.cx.size X.cx.zero all) l) tm st fun tm st => k (.code .normal tm ds st)).holds Θ E.va R → wpListIn (FW r) 0 X.P ops (CodeOut X K w0 Θ R0 E0 st0 N k) l a w
  | [], tm, st, st0, E, E0, R, R0, w, a, _, hS, hT, hE, hH, hR0, h => ⟨.normal, tm, ds, st, E, R, rfl, hR0, h, hE, hS, hH, hT⟩
  | o :: l, tm, st, st0, E, E0, R, R0, w, a, hd, hS, hT, hE, hH, hR0, h => by
    have hdo := hd o (by simp)
    have hdl := fun x hx => hd x (List.mem_cons_of_mem _ hx)
    have h : (operK X.cx rec (cOper X.cx.und X.cx.size X.cx.zero all o) tm st fun tm st => opsK X.cx rec (mapL (cOper X.cx.und X.cx.size X.cx.zero all) l) tm st fun tm st => k (.code .normal tm ds st)).holds Θ E.va R := h
    unfold operK at h
    have hgrd : (cOper X.cx.und X.cx.size X.cx.zero all o).g = grdP all o.guard := rfl
    have hdst : (cOper X.cx.und X.cx.size X.cx.zero all o).dst = dstP o.dst := rfl
    rw [hgrd, hdst] at h
    have hok : grdOK all o.guard = true := by
      cases hg : grdOK all o.guard with
      | true => rfl
      | false =>
        rw [grd_of hg] at h
        exact absurd (cOper_inv h).1 (by rw [hg]; simp)
    obtain ⟨f, t, hf, hw, h⟩ := guardK_inv hok h hS.facts hT.oks
    have hw := hw E (fun d => a.tmps.getD d undef) (.refl E) fun d _ => by
      obtain ⟨x, h1, h2⟩ := hT.rel.slots d; rw [h1, h2]
    rw [hall] at hw
    rw [← wanted_eq ops o a.tmps] at hw
    have hS' := hS.withF hf
    rcases h with ⟨ht, h⟩ | ⟨ht, h⟩
    · rw [ht] at hw
      obtain ⟨_, b, hb, hbe⟩ := cOper_inv h
      rw [hbe] at h
      have heff := op_out hc hr hS' hT.oks hb h
      simp only [wpListIn, hw, if_true]
      refine OpRes.wpIn (op_notDefer hb) (heff a.eval (hT.rd _)) fun y w' hout => ?_
      obtain ⟨v, st', E', R', g1, g2, g3, g4, g5, g6⟩ := hout
      simp only [] at g2
      rw [putDK_dst] at g2
      exact ops_ok hc hr all ops hall l _ st' st0 E' E0 R' R0 w' _ hdl g4 ((hT.mono g3).putD hdo g6) (hE.trans g3) (hH.trans ((hp_withF E st f).trans g5)) (hR0.trans g1) g2
    · rw [ht] at hw
      simp only [wpListIn, hw, Bool.false_eq_true, if_false]
      refine ⟨about_FW _ _ _ _, ?_⟩
      simp only [] at h
      rw [putDK_dst] at h
      exact ops_ok hc hr all ops hall l _ _ st0 E E0 R R0 w _ hdl hS' (hT.putD hdo den_undef) hE (hH.trans (hp_withF E st f)) hR0 h
end
end Go.Sy
