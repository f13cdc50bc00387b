import Derived.Test.YtfkaabhmcdiihaaSyThree
import Derived.Laws.BytesString
import Derived.Laws.StructEq
/-! Operations that leave memory as it is: all of them. -/
namespace Go.Sy
section
variable {X : Tabs} {K : Nat → Prop} {w0 : World} {E : Env} {st : St} {w : World} {Θ : Pred} {R : List Back} {tm : Tm} {k : Kt} {o : Oper}

theorem un_out {x : Operand} {b : BO} {run : Value → Sem Value} (hb : cO x = some b) (hx : x ∈ o.op.operands.toList) (hrun : ∀ ρ, execOp ρ o = (run (ρ x) >>= fun v => pure (Next.value v))) (h : Un1Out X.P Θ R E st k (ev tm b) run) : ValOut X Θ R E o tm st k := by
  obtain ⟨v, f, h1, h2, h3⟩ := h
  refine ⟨v, f, h1, h2, fun E' ρ hE hR => ?_⟩
  obtain ⟨z, hz, hr⟩ := h3 E' _ hE (hR.get hx hb)
  exact ⟨z, hz, fun w => by rw [hrun, Sem.run_bind, hr w]; rfl⟩
theorem xPick_out {c a b : Operand} {bc ba bb : BO} (hc : cO c = some bc) (ha : cO a = some ba) (hb : cO b = some bb) (ho : o.op = .pick c a b) (hO : Oks E tm) (h : (xPick tm st k ba bb (ev tm bc)).holds Θ E.va R) (hf : FOK E.va st.facts) : ValOut X Θ R E o tm st k := by
  have fin : ∀ {t : Bool} {f : List T} {y : Operand} {by_ : BO}, (if t then a else b) = y → cO y = some by_ → (k (ev tm by_) (st.withF f)).holds Θ E.va R → FOK E.va f → (∀ E' x, E.Le E' → (ev tm bc).den E' = some x → x = .bool t) → ValOut X Θ R E o tm st k := by
    intro t f y by_ hy hby hk hf ht
    refine ⟨_, f, hk, hf, fun E' ρ hE hR => ?_⟩
    have h1 := ht E' _ hE (hR.get (x := c) (by rw [ho]; simp [Op.operands]) hc)
    refine ⟨ρ y, hR.get (x := y) ?_ hby, fun w => ?_⟩
    · subst hy; rw [ho]; cases t <;> simp [Op.operands]
    · subst hy; simp only [execOp, ho, h1, asBool, Sem.run_bind, Sem.run_pure, Result.andThen_ok]; cases t <;> rfl
  unfold xPick at h
  split at h
  · rename_i hev
    exact fin (t := true) (f := st.facts) (y := a) rfl ha (by rw [withF_self]; exact h) hf (by rw [hev]; exact bool_den)
  · rename_i hev
    exact fin (t := false) (f := st.facts) (y := b) rfl hb (by rw [withF_self]; exact h) hf (by rw [hev]; exact bool_den)
  · rename_i c' hev
    have hoc := hO.ev hc
    rw [hev] at hoc
    obtain ⟨b', hb', hd⟩ := cnd_inv hoc
    obtain ⟨f, hf', h⟩ := brK_inv h hf hb'
    rcases h with ⟨e, h⟩ | ⟨e, h⟩
    · subst e; exact fin (t := true) (f := f) (y := a) rfl ha h hf' (by rw [hev]; exact hd)
    · subst e; exact fin (t := false) (f := f) (y := b) rfl hb h hf' (by rw [hev]; exact hd)
  · exact h.elim
theorem xNilc_out {x : Operand} {b : BO} (hb : cO x = some b) (ho : o.op = .nilCheck x) (h : (xNilc st k (ev tm b)).holds Θ E.va R) (hf : FOK E.va st.facts) : ValOut X Θ R E o tm st k := by
  have hx : x ∈ o.op.operands.toList := by rw [ho]; simp [Op.operands]
  unfold xNilc at h
  split at h
  · rename_i a hev
    refine .now h hf fun E' ρ hE hR => ?_
    have hx := hR.get hx hb
    rw [hev] at hx
    obtain ⟨ad, _, e0⟩ := den_ptr hx
    exact ⟨_, hx, fun w => by simp [execOp, ho, e0]⟩
  · rename_i f a c hev
    refine .now h hf fun E' ρ hE hR => ?_
    have hx := hR.get hx hb
    rw [hev] at hx
    obtain ⟨xs, ys, _, _, e0⟩ := den_func' hx
    exact ⟨_, hx, fun w => by simp [execOp, ho, e0]⟩
  · rename_i l hev
    refine .now h hf fun E' ρ hE hR => ?_
    have hx := hR.get hx hb
    rw [hev] at hx
    obtain ⟨id, _, e0⟩ := den_yld hx
    exact ⟨_, hx, fun w => by simp [execOp, ho, e0]⟩
  · exact h.elim
theorem xExt_out {x : Operand} {i : Nat} {b : BO} (hb : cO x = some b) (ho : o.op = .extract x i) (h : (xExt i st k (ev tm b)).holds Θ E.va R) (hf : FOK E.va st.facts) : ValOut X Θ R E o tm st k := by
  unfold xExt at h
  split at h
  · rename_i l hev
    obtain ⟨v, hv, h⟩ := outK_inv h
    rw [getL_eq] at hv
    refine .now h hf fun E' ρ hE hR => ?_
    have hx := hR.get (x := x) (by rw [ho]; simp [Op.operands]) hb
    rw [hev] at hx
    simp only [AV.den, Option.map_eq_some_iff] at hx
    obtain ⟨xs, hxs, e0⟩ := hx
    obtain ⟨y, h1, h2⟩ := denL_get hxs hv
    exact ⟨y, h1, fun w => by simp [execOp, ho, ← e0, Instr.extract, h2]⟩
  · exact h.elim
theorem xMkf_out {fn : Fn} {a c : Array Operand} {ba bc : List BO} (ha : cOs a.toList = some ba) (hc : cOs c.toList = some bc) (ho : o.op = .makeFunc fn a c) (h : (k (.func fn (evs tm ba) (evs tm bc)) st).holds Θ E.va R) (hf : FOK E.va st.facts) : ValOut X Θ R E o tm st k := by
  refine .now h hf fun E' ρ hE hR => ?_
  have e1 : (a.toList.map ρ).toArray = a.map ρ := by apply Array.ext'; simp
  have e2 : (c.toList.map ρ).toArray = c.map ρ := by apply Array.ext'; simp
  refine ⟨.func fn (a.map ρ) (c.map ρ), ?_, fun w => by simp [execOp, ho, Instr.makeFunc]⟩
  have h1 := cOs_inv (tm := tm) ha (E := E') (ρ := ρ) fun x hx => hR x (by rw [ho]; simp [Op.operands]; simp at hx; exact .inl hx)
  have h2 := cOs_inv (tm := tm) hc (E := E') (ρ := ρ) fun x hx => hR x (by rw [ho]; simp [Op.operands]; simp at hx; exact .inr hx)
  simp only [AV.den, h1, h2, e1, e2]
theorem xMki_out (hc : CxOK X K w0) {t : TypeId} {x : Operand} {b : BO} {d : TypeDesc} (hb : cO x = some b) (hd : X.cx.und.get t = some d) (hn : notIface d = true) (ho : o.op = .makeInterface t x) (h : (k (.iface t (ev tm b)) st).holds Θ E.va R) (hf : FOK E.va st.facts) : ValOut X Θ R E o tm st k := by
  refine .now h hf fun E' ρ hE hR => ?_
  have hx := hR.get (x := x) (by rw [ho]; simp [Op.operands]) hb
  refine ⟨.iface t (ρ x), by simp [AV.den, hx], fun w => ?_⟩
  simp only [execOp, ho, Instr.makeInterface, Sem.run_bind, hc.und' hd, Result.andThen_ok]
  cases d <;> first | rfl | (cases hn)
theorem xS2a_out (hc : CxOK X K w0) {t e : TypeId} {n : Nat} {x : Operand} {b : BO} (hb : cO x = some b) (hd : X.cx.und.get t = some (.array n e)) (ho : o.op = .sliceToArrayPointer t x) (h : (xS2a n st k (ev tm b)).holds Θ E.va R) (hf : FOK E.va st.facts) : ValOut X Θ R E o tm st k := by
  unfold xS2a at h
  split at h
  · rename_i a m c hev
    obtain ⟨hcond, h⟩ := vif_inv h
    rw [ble_iff, decide_eq_true_eq] at hcond
    refine .now h hf fun E' ρ hE hR => ?_
    have hx := hR.get (x := x) (by rw [ho]; simp [Op.operands]) hb
    rw [hev] at hx
    have hlt : ¬ m < n := by omega
    rcases den_slice_inv hx with ⟨rfl, _, _, e0⟩ | ⟨p, ad, cp, rfl, had, _, _, e0⟩
    · rename_i hm _
      refine ⟨.pointer none, rfl, fun w => ?_⟩
      subst hm
      simp [execOp, ho, e0, Instr.arrayAt, hc.und' hd, show ¬ 0 < n by omega]
    · exact ⟨.pointer (some ad), den_ptr_of had, fun w => by simp [execOp, ho, e0, Instr.arrayAt, hc.und' hd, hlt]⟩
  · exact h.elim
/-- A type's first value. -/
theorem zeroV_sound (hc : CxOK X K w0) {t : TypeId} {z : AV} (h : zeroV X.cx.und X.cx.size X.cx.zero t = some z) : ∃ y, (∀ E, z.den E = some y) ∧ ∀ w, (zeroValue t).run X.P w = .ok y w := by
  obtain ⟨g, hg, h⟩ := obind_inv h
  obtain ⟨l, hl, h⟩ := obind_inv h
  obtain ⟨i, v, h1, h2, h3, h4, h5, h6⟩ := hc.zero t l hl
  have hrun : ∀ w, (zeroValue t).run X.P w = .ok v w := fun w => by simp [zeroValue, typeInfo, h1, h2, Sem.run, program]
  obtain ⟨d, hd, hg⟩ := obind_inv hg
  have hagg := h6 d hd
  refine ⟨v, ?_, hrun⟩
  cases e : isAggD d with
  | true =>
    rw [e, bif_true] at hg
    obtain ⟨n, _, hg⟩ := obind_inv hg
    cases hg
    cases h
    rw [e] at hagg
    cases v <;> first | (cases hagg; done) | skip
    intro E
    have := h5 E
    simp only [Value.cells] at this
    simp [AV.den, this]
  | false =>
    rw [e, bif_false] at hg
    cases hg
    change getL 0 l = some z at h
    rw [getL_eq] at h
    rw [e] at hagg
    intro E
    obtain ⟨y, g1, g2⟩ := denL_get (h5 E) h
    have : v.cells = #[v] := by cases v <;> first | (cases hagg; done) | rfl
    rw [this] at g2
    simp at g2
    rw [g1, g2]
theorem xTass_out (hc : CxOK X K w0) {t xt : TypeId} {x : Operand} {ok : Bool} {z : AV} {d : TypeDesc} {b : BO} (hb : cO x = some b) (hd : X.cx.und.get t = some d) (hn : notIface d = true) (hz : zeroV X.cx.und X.cx.size X.cx.zero t = some z) (ho : o.op = .typeAssert x xt t ok)
    (h : (xTass t z ok st k (ev tm b)).holds Θ E.va R) (hf : FOK E.va st.facts) : ValOut X Θ R E o tm st k := by
  obtain ⟨y, hy, hzr⟩ := zeroV_sound hc hz
  have hx : x ∈ o.op.operands.toList := by rw [ho]; simp [Op.operands]
  have hex : ∀ ρ w, (execOp ρ o).run X.P w = ((Instr.typeAssert (ρ x) xt t ok) >>= fun v => pure (Next.value v) : Sem Next).run X.P w := fun ρ w => by simp only [execOp, ho]
  have hnil : ∀ w, (Instr.typeAssert .nilIface xt t true).run X.P w = .ok (.tuple #[y, .bool false]) w := by
    intro w
    unfold Instr.typeAssert
    simp only [Sem.run_bind, hc.und' hd, Result.andThen_ok]
    cases d <;> first | (cases hn; done) | (simp [hzr])
  have hhit : ∀ w v, (Instr.typeAssert (.iface t v) xt t ok).run X.P w = .ok (if ok then .tuple #[v, .bool true] else v) w := by
    intro w v
    unfold Instr.typeAssert
    simp only [Sem.run_bind, hc.und' hd, Result.andThen_ok]
    cases d <;> first | (cases hn; done) | simp
  have hmiss : ∀ w u v, u ≠ t → (Instr.typeAssert (.iface u v) xt t true).run X.P w = .ok (.tuple #[y, .bool false]) w := by
    intro w u v hne
    unfold Instr.typeAssert
    simp only [Sem.run_bind, hc.und' hd, Result.andThen_ok]
    cases d <;> first | (cases hn; done) | (simp [hne, hzr])
  have htup : ∀ E', (AV.tuple [z, .bool false]).den E' = some (.tuple #[y, .bool false]) := fun E' => by
    have : denL E' [z, .bool false] = some [y, .bool false] := denL_cons.2 ⟨_, _, hy E', denL_cons.2 ⟨_, _, rfl, rfl, rfl⟩, rfl⟩
    simp [AV.den, this]
  unfold xTass at h
  split at h
  · rename_i hev
    obtain ⟨hok, h⟩ := vif_inv h
    subst hok
    refine .now h hf fun E' ρ hE hR => ⟨_, htup E', fun w => ?_⟩
    have hx := hR.get hx hb
    rw [hev] at hx
    simp only [AV.den, Option.some.injEq] at hx
    rw [hex, ← hx]; simp [hnil w]
  · rename_i u v hev
    rw [beq_iff] at h
    rcases bif_holds h with ⟨e, hh⟩ | ⟨e, hh⟩
    · have hut := of_decide_eq_true e
      clear e h
      subst hut
      rcases boolRec hh with ⟨hok, h2⟩ | ⟨hok, h2⟩
      · subst hok
        refine .now h2 hf fun E' ρ hE hR => ?_
        have hx := hR.get hx hb
        rw [hev] at hx
        obtain ⟨y', h1, e0⟩ := den_iface' hx
        have : denL E' [v, .bool true] = some [y', .bool true] := denL_cons.2 ⟨_, _, h1, denL_cons.2 ⟨_, _, rfl, rfl, rfl⟩, rfl⟩
        refine ⟨.tuple #[y', .bool true], by simp [AV.den, this], fun w => ?_⟩
        rw [hex, e0]; simp [hhit w y']
      · subst hok
        refine .now h2 hf fun E' ρ hE hR => ?_
        have hx := hR.get hx hb
        rw [hev] at hx
        obtain ⟨y', h1, e0⟩ := den_iface' hx
        refine ⟨y', h1, fun w => ?_⟩
        rw [hex, e0]; simp [hhit w y']
    · obtain ⟨hok, h2⟩ := vif_inv hh
      clear h hh
      subst hok
      refine .now h2 hf fun E' ρ hE hR => ⟨_, htup E', fun w => ?_⟩
      have hx := hR.get hx hb
      rw [hev] at hx
      obtain ⟨y', h1, e0⟩ := den_iface' hx
      rw [hex, e0]; simp [hmiss w u y' (of_decide_eq_false e)]
  · exact h.elim

/-! ### Built-in functions -/
theorem lenK_inv {n : Nat} (h : (lenK n st k).holds Θ E.va R) : n < 9223372036854775808 ∧ (k (.int .i64 n) st).holds Θ E.va R := by
  obtain ⟨h1, h2⟩ := vif_inv h
  rw [blt_iff, decide_eq_true_eq] at h1
  exact ⟨h1, h2⟩
theorem run_builtin {P : Program} {ρ : Operand → Value} {b : Builtin} {args : Array Operand} {tys : Array TypeId} {s : Sem Value} (ho : o.op = .call ⟨.builtin b, args, tys⟩) (hb : ∀ consts, Go.builtin b tys o.type consts (args.map ρ) = (s >>= fun v => pure (Next.value v))) (w : World) :
    (execOp ρ o).run P w = (s >>= fun v => pure (Next.value v) : Sem Next).run P w := by
  simp only [execOp, ho, resolve, Sem.run_bind, Sem.run_pure, Result.andThen_ok, invoke, hb]
theorem ops_call {b : Builtin} {args : Array Operand} {tys : Array TypeId} (ho : o.op = .call ⟨.builtin b, args, tys⟩) : o.op.operands.toList = args.toList := by
  rw [ho]; simp [Op.operands, Call.operands]
theorem cOs_get : ∀ {l : List Operand} {bs : List BO} {i : Nat} {b : BO}, cOs l = some bs → bs[i]? = some b → ∃ x, l[i]? = some x ∧ cO x = some b
  | [], bs, i, b, h, hb => by cases h; simp at hb
  | x :: l, bs, i, b, h, hb => by
    change obind (cO x) (fun b => obind (cOs l) fun r => some (b :: r)) = some bs at h
    obtain ⟨c, hc, h⟩ := obind_inv h
    obtain ⟨r, hr, h⟩ := obind_inv h
    cases h
    cases i with
    | zero => simp at hb; subst hb; exact ⟨x, by simp, hc⟩
    | succ i => obtain ⟨y, h1, h2⟩ := cOs_get hr (i := i) (by simpa using hb); exact ⟨y, by simpa using h1, h2⟩
/-- One argument. -/
theorem arg_get {b : Builtin} {args : Array Operand} {tys : Array TypeId} {bs : List BO} (ho : o.op = .call ⟨.builtin b, args, tys⟩) (hb : cOs args.toList = some bs) {i : Nat} {bx : BO} (hx : getL i bs = some bx) :
    ∃ x, args[i]? = some x ∧ cO x = some bx ∧ ∀ E' ρ, Rd E' tm ρ o.op.operands.toList → (ev tm bx).den E' = some (ρ x) ∧ (args.map ρ)[i]? = some (ρ x) := by
  rw [getL_eq] at hx
  obtain ⟨x, h1, h2⟩ := cOs_get hb hx
  have h1' : args[i]? = some x := by simpa using h1
  exact ⟨x, h1', h2, fun E' ρ hR => ⟨hR.get (by rw [ops_call ho]; exact List.mem_of_getElem? h1) h2, by simp [h1']⟩⟩
theorem tys_get {tys : Array TypeId} {i : Nat} {t : TypeId} (h : getL i tys.toList = some t) : tys[i]? = some t := by rw [getL_eq] at h; simpa using h
theorem cLen_out (hc : CxOK X K w0) {args : Array Operand} {tys : Array TypeId} {bs : List BO} {t : TypeId} {d : TypeDesc} {n : Option Nat} {bx : BO} (hcap : Bool) (ho : o.op = .call ⟨.builtin (if hcap then .cap else .len), args, tys⟩) (hb : cOs args.toList = some bs) (ht : getL 0 tys.toList = some t) (hx : getL 0 bs = some bx) (hd : X.cx.und.get t = some d)
    (hn : lenN X.cx.und d = some (some n)) (hs : hcap = true → isStrD d = false) (h : (Option.rec ((if hcap then xCap st k (ev tm bx) else xLen (isStrD d) st k (ev tm bx))) (fun n => lenK n st k) n : VC).holds Θ E.va R) (hf : FOK E.va st.facts) : ValOut X Θ R E o tm st k := by
  obtain ⟨x, hx1, hx2, hx3⟩ := arg_get (tm := tm) ho hb hx
  have ht1 := tys_get ht
  have hu := hc.und t d hd
  have fin : ∀ {v : AV} {s : (Operand → Value) → Sem Value}, (∀ ρ consts, Go.builtin (if hcap then .cap else .len) tys o.type consts (args.map ρ) = (s ρ >>= fun v => pure (Next.value v))) → (k v st).holds Θ E.va R → (∀ E' ρ, E.Le E' → Rd E' tm ρ o.op.operands.toList → ∃ y, v.den E' = some y ∧ ∀ w, (s ρ).run X.P w = .ok y w) → ValOut X Θ R E o tm st k := by
    intro v s hs hk hall
    refine .now hk hf fun E' ρ hE hR => ?_
    obtain ⟨y, h1, h2⟩ := hall E' ρ hE hR
    exact ⟨y, h1, fun w => by rw [run_builtin ho (hs ρ)]; simp [h2 w]⟩
  cases n with
  | some n =>
    obtain ⟨hlt, h⟩ := lenK_inv h
    have hres : ∀ ρ w, ((if hcap then Builtin.cap_ tys o.type (args.map ρ) else Builtin.len_ tys o.type (args.map ρ))).run X.P w = .ok (goInt n) w := by
      intro ρ w
      have e1 : (args.map ρ)[0]? = some (ρ x) := by simp [hx1]
      unfold lenN at hn
      split at hn
      · cases hn
      · cases hn
      · cases hn
      · cases hn
        cases hcap <;> simp [Builtin.cap_, Builtin.len_, ht1, e1, run_underlying hu]
      · rename_i p
        obtain ⟨d2, hd2, hn⟩ := obind_inv hn
        split at hn
        · cases hn
          cases hcap <;> simp [Builtin.cap_, Builtin.len_, ht1, e1, run_underlying hu, hc.und' hd2]
        · cases hn
      · cases hn
    refine fin (s := fun ρ => if hcap then Builtin.cap_ tys o.type (args.map ρ) else Builtin.len_ tys o.type (args.map ρ)) (fun ρ consts => by cases hcap <;> rfl) h fun E' ρ hE hR => ⟨_, den_i64 hlt, fun w => hres ρ w⟩
  | none =>
    have hdd : (∃ e, d = .slice e) ∨ d = .string := by
      unfold lenN at hn
      split at hn
      · exact .inl ⟨_, rfl⟩
      · exact .inr rfl
      · cases hn
      · cases hn
      · obtain ⟨d2, hd2, hn⟩ := obind_inv hn
        split at hn <;> cases hn
      · cases hn
    have go : ∀ {m : Nat}, m < 9223372036854775808 → (k (.int .i64 m) st).holds Θ E.va R → (∀ E' ρ, E.Le E' → Rd E' tm ρ o.op.operands.toList → ∀ w, (if hcap then Builtin.cap_ tys o.type (args.map ρ) else Builtin.len_ tys o.type (args.map ρ)).run X.P w = .ok (goInt m) w) → ValOut X Θ R E o tm st k := by
      intro m hm hk hall
      exact fin (s := fun ρ => if hcap then Builtin.cap_ tys o.type (args.map ρ) else Builtin.len_ tys o.type (args.map ρ)) (fun ρ consts => by cases hcap <;> rfl) hk fun E' ρ hE hR => ⟨_, den_i64 hm, hall E' ρ hE hR⟩
    cases hcap with
    | true =>
      have h : (xCap st k (ev tm bx)).holds Θ E.va R := h
      unfold xCap at h
      split at h
      · rename_i a n c hev
        obtain ⟨hlt, h⟩ := lenK_inv h
        refine go hlt h fun E' ρ hE hR w => ?_
        obtain ⟨hx, hxa⟩ := hx3 E' ρ hR
        have hsl : ∃ e, d = .slice e := by
          rcases hdd with h | h
          · exact h
          · have := hs rfl; rw [h] at this; cases this
        obtain ⟨e, rfl⟩ := hsl
        rw [hev] at hx
        rcases den_slice_inv hx with ⟨_, _, e2, e0⟩ | ⟨_, _, _, _, _, e2, _, e0⟩
        · cases e2; simp [Builtin.cap_, ht1, hxa, run_underlying hu, e0]
        · cases e2; simp [Builtin.cap_, ht1, hxa, run_underlying hu, e0]
      · exact h.elim
    | false =>
      have h : (xLen (isStrD d) st k (ev tm bx)).holds Θ E.va R := h
      have sl : isStrD d = false → ∃ e, d = .slice e := fun hf => by
        rcases hdd with h | h
        · exact h
        · rw [h] at hf; cases hf
      unfold xLen at h
      split at h
      · rename_i a n c hev
        obtain ⟨hst, h1⟩ := vif_inv h
        obtain ⟨hlt, h2⟩ := lenK_inv h1
        obtain ⟨e, rfl⟩ := sl (by simpa using hst)
        refine go hlt h2 fun E' ρ hE hR w => ?_
        obtain ⟨hx, hxa⟩ := hx3 E' ρ hR
        rw [hev] at hx
        obtain ⟨ad, cp, e0, _⟩ := den_slice' hx
        simp [Builtin.len_, ht1, hxa, run_underlying hu, e0]
      · rename_i a i n d' hev
        obtain ⟨hst, h1⟩ := vif_inv h
        obtain ⟨e, rfl⟩ := sl (by simpa using hst)
        refine go (m := 0) (by omega) h1 fun E' ρ hE hR w => ?_
        obtain ⟨hx, hxa⟩ := hx3 E' ρ hR
        rw [hev] at hx
        obtain ⟨ad, cp, _, _, _, e0⟩ := den_sl0 hx
        simp [Builtin.len_, ht1, hxa, run_underlying hu, e0]
      · rename_i n s hev
        obtain ⟨hst, h1⟩ := vif_inv h
        obtain ⟨hlt, h2⟩ := lenK_inv h1
        have hds : d = .string := by
          rcases hdd with ⟨e, h⟩ | h
          · rw [h] at hst; cases hst
          · exact h
        subst hds
        refine go hlt h2 fun E' ρ hE hR w => ?_
        obtain ⟨hx, hxa⟩ := hx3 E' ρ hR
        rw [hev] at hx
        obtain ⟨h1, h2, e0⟩ := den_str hx
        simp [Builtin.len_, ht1, hxa, run_underlying hu, e0, bytesOf_size, h1]
      · exact h.elim
theorem xMinmax_out {args : Array Operand} {tys : Array TypeId} {bs : List BO} {mx : Bool} (ho : o.op = .call ⟨.builtin (if mx then .max else .min), args, tys⟩) (hb : cOs args.toList = some bs) (hO : Oks E tm) (h : (xMinmax mx st k (evs tm bs)).holds Θ E.va R) (hf : FOK E.va st.facts) : ValOut X Θ R E o tm st k := by
  have hoks : ∀ {l : List Operand} {bs : List BO}, cOs l = some bs → ∀ u ∈ evs tm bs, okv E u := by
    intro l
    induction l with
    | nil => intro bs h u hu; cases h; cases hu
    | cons x l ih =>
      intro bs h u hu
      change obind (cO x) (fun b => obind (cOs l) fun r => some (b :: r)) = some bs at h
      obtain ⟨c, hc, h⟩ := obind_inv h
      obtain ⟨r, hr, h⟩ := obind_inv h
      cases h
      change u ∈ ev tm c :: evs tm r at hu
      cases hu with
      | head => exact hO.ev hc
      | tail _ hu => exact ih hr u hu
  have hoks := hoks hb
  unfold xMinmax at h
  split at h
  · exact h.elim
  · rename_i v l hev
    rw [hev] at hoks
    obtain ⟨u, f, h1, hf', h2⟩ := mmL_inv (P := X.P) h hf (hoks v (by simp)) (fun y hy => hoks y (List.mem_cons_of_mem _ hy))
    refine ⟨u, f, h1, hf', fun E' ρ hE hR => ?_⟩
    rw [ops_call ho] at hR
    have hd := cOs_inv (tm := tm) hb hR
    rw [hev] at hd
    obtain ⟨x, xs, hx, hxs, hmap⟩ := denL_cons.1 hd
    obtain ⟨z, hz, hrun⟩ := h2 E' x xs hE hx hxs
    refine ⟨z, hz, fun w => ?_⟩
    have e1 : (args.map ρ).toList = x :: xs := by rw [← hmap]; simp
    rw [run_builtin (s := if mx then Builtin.max_ tys o.type (args.map ρ) else Builtin.min_ tys o.type (args.map ρ)) ho (fun consts => by cases mx <;> rfl)]
    have hmm : (if mx then Builtin.max_ tys o.type (args.map ρ) else Builtin.min_ tys o.type (args.map ρ)).run X.P w = .ok z w := by
      have := hrun w
      cases mx
      · simp only [Bool.false_eq_true, if_false, Builtin.min_, e1]; exact this
      · simp only [if_true, Builtin.max_, e1]; exact this
    rw [Sem.run_bind, hmm]; rfl

/-! ### Conversions that only look at values -/
theorem run_conv {P : Program} {ρ : Operand → Value} {s d : TypeId} {x : Operand} (ho : o.op = .convert s d x) (w : World) : (execOp ρ o).run P w = ((convert s d (ρ x)) >>= fun v => pure (Next.value v) : Sem Next).run P w := by simp only [execOp, ho]
theorem conv_int {P : Program} {s d : TypeId} {sd : TypeDesc} {kd j : IntKind} {n : Int} (hs : P.underlying s = some sd) (hd : P.underlying d = some (.int kd)) (w : World) : (convert s d (.int j n)).run P w = .ok (.int kd (kd.wrap n)) w := by
  unfold convert
  simp only [Sem.run_bind, run_underlying hs, run_underlying hd, Result.andThen_ok]
  cases sd <;> simp [Conv.intToInt]
theorem encode_small {c : Nat} (h : c < 128) : Utf8.encode (c : Int) = bytesOf [c] := by
  unfold Utf8.encode
  have hv : Utf8.valid (c : Int) = true := by unfold Utf8.valid; simp; omega
  simp only [hv, if_true, Int.toNat_natCast]
  rw [if_pos h]; rfl
theorem conv1_out (hc : CxOK X K w0) {s d : TypeId} {sd dd : TypeDesc} {x : Operand} {b : BO} (hb : cO x = some b) (hs : X.cx.und.get s = some sd) (hd : X.cx.und.get d = some dd) (ho : o.op = .convert s d x) (hne : isEffC sd dd = false) (hO : Oks E tm)
    (h : (conv1 X.cx st k (ebOf X.cx.und sd dd) (Nat.beq s d) dd (ev tm b)).holds Θ E.va R) (hf : FOK E.va st.facts) : ValOut X Θ R E o tm st k := by
  have hx : x ∈ o.op.operands.toList := by rw [ho]; simp [Op.operands]
  have hus := hc.und s sd hs
  have hud := hc.und d dd hd
  have hov := hO.ev hb
  unfold conv1 at h
  split at h
  · rename_i kd
    split at h
    · rename_i j u hev
      refine .now h hf fun E' ρ hE hR => ?_
      have hx := hR.get hx hb
      rw [hev] at hx
      obtain ⟨hu, e0⟩ := den_int hx
      obtain ⟨h1, h2⟩ := convU_eq j kd hu
      exact ⟨_, den_int_of h1, fun w => by rw [run_conv ho, e0, Sem.run_bind, conv_int hus hud, h2]; rfl⟩
    · rename_i j t hev
      rw [hev] at hov
      obtain ⟨n, h1, h2, h3⟩ := toT_inv (v := .sym j t) rfl hov
      have hall : ∀ E' ρ, E.Le E' → Rd E' tm ρ o.op.operands.toList → ∀ w, (execOp ρ o).run X.P w = .ok (.value (.int kd (kd.wrap n))) w := fun E' ρ hE hR w => by
        have hx := hR.get hx hb
        rw [hev] at hx
        rw [run_conv ho, h3 E' _ hE hx, Sem.run_bind, conv_int hus hud]; rfl
      rcases bif_holds h with ⟨e, h⟩ | ⟨e, h⟩
      · have e := kbeq_eq e
        refine .now h hf fun E' ρ hE hR => ⟨_, den_sym_of (ev_mono hE.va h1) (by rw [← e]; exact h2), fun w => ?_⟩
        have := hall E' ρ hE hR w
        rw [← e, wf_wrap h2] at this
        rw [← e]; exact this
      · refine .now h hf fun E' ρ hE hR => ⟨_, den_sym_of (ev_mono hE.va (cvT_ev hf h1)) (wrap_wf _ _), hall E' ρ hE hR⟩
    · exact h.elim
  · split at h
    · rename_i n s' hev
      refine .now h hf fun E' ρ hE hR => ?_
      have hx := hR.get hx hb
      rw [hev] at hx
      obtain ⟨_, _, e0⟩ := den_str hx
      refine ⟨_, hx, fun w => ?_⟩
      rw [run_conv ho, e0]
      unfold convert
      simp only [Sem.run_bind, run_underlying hus, run_underlying hud, Result.andThen_ok]
      cases sd <;> simp
    · rename_i j u hev
      rw [hev] at hov
      obtain ⟨u', hu', h⟩ := vbind_inv h
      obtain ⟨hlt, h⟩ := vif_inv h
      obtain ⟨j', e1, e2, _⟩ := natOf_inv hu' hov
      cases e1
      rw [blt_iff, decide_eq_true_eq] at hlt
      refine .now h hf fun E' ρ hE hR => ?_
      have hx := hR.get hx hb
      rw [hev] at hx
      obtain ⟨_, e0⟩ := den_int hx
      refine ⟨_, den_str_of (n := 1) (s := [u]) rfl (by intro c hc; rw [List.mem_singleton.1 hc]; omega), fun w => ?_⟩
      rw [run_conv ho, e0, e2]
      unfold convert
      simp only [Sem.run_bind, run_underlying hus, run_underlying hud, Result.andThen_ok]
      cases sd <;> simp [Conv.intToString, encode_small hlt]
    · obtain ⟨he, h⟩ := vif_inv h
      exfalso
      cases sd <;> first | (cases hne; done) | (cases he; done)
  · cases sd <;> cases hne
  · exact h.elim
end
end Go.Sy
/-! Operations that may come late. -/
namespace Go.Sy
section
variable {X : Tabs} {K : Nat → Prop} {w0 : World} {E : Env} {st : St} {w : World} {Θ : Pred} {R : List Back} {tm : Tm} {k : Kt} {o : Oper}

/-- What an operation laid aside is still as it was. -/
def Held (n n' : Nat) (st' : St) (E'' : Env) (st'' : St) : Prop := ∀ k, n ≤ k → k < n' → E''.m[k]? = some none ∧ st''.heap.get k = st'.heap.get k ∧ st''.x.objs.get k = st'.x.objs.get k
/-- Whenever it comes, it yields v's value. -/
def Late (X : Tabs) (K : Nat → Prop) (w0 : World) (o : Oper) (tm : Tm) (bo : BOp) (v : AV) (E E' : Env) (st' : St) : Prop :=
  ∀ E'' st'' w'' ρ, E'.Le E'' → Held E.m.length E'.m.length st' E'' st'' → StRel X K w0 E'' st'' w'' → Rd E'' tm ρ o.op.operands.toList → (∀ n a, bo = .load n a → ∀ x, asPtr (ev tm a) = some x → loadVar X.cx st'' n x = some v) →
    ∃ E3 y w3, E''.Le E3 ∧ E3.va = E''.va ∧ (execOp ρ o).run X.P w'' = .ok (.value y) w3 ∧ StRel X K w0 E3 st'' w3 ∧ v.den E3 = some y ∧ ∀ j, (j < E.m.length ∨ E'.m.length ≤ j) → E''.m[j]? = some none → E3.m[j]? = some none
def KeepH (st st' : St) : Prop := ∀ k b, st.heap.get k = some b → st'.heap.get k = some b
/-- What is new has no place yet. -/
def NewH (E E' : Env) : Prop := ∀ k, E.m.length ≤ k → k < E'.m.length → E'.m[k]? = some none
theorem NewH.refl (E : Env) : NewH E E := fun k h h' => absurd h' (by omega)
theorem NewH.push (E : Env) : NewH E (E.push none) := fun k h h' => by
  have : k = E.m.length := by simp [Env.push] at h'; omega
  subst this; exact push_new E none
/-- What was loaded stands there. -/
def LdNow (X : Tabs) (tm : Tm) (bo : BOp) (v : AV) (st : St) : Prop := ∀ n a, bo = .load n a → ∀ x, asPtr (ev tm a) = some x → loadVar X.cx st n x = some v
theorem LdNow.of {bo : BOp} {v : AV} (h : ∀ n a, bo ≠ .load n a) : LdNow X tm bo v st := fun n a e => absurd e (h n a)
def MovOut (X : Tabs) (K : Nat → Prop) (w0 : World) (Θ : Pred) (R : List Back) (E : Env) (o : Oper) (tm : Tm) (bo : BOp) (st : St) (w : World) (k : Kt) : Prop :=
  ∃ v st' E', (k v st').holds Θ E'.va R ∧ E.Le E' ∧ StRel X K w0 E' st' w ∧ HP E E' st st' ∧ okv E' v ∧ KeepH st st' ∧ NewH E E' ∧ LdNow X tm bo v st' ∧ Late X K w0 o tm bo v E E' st'

theorem ValOut.mov {bo : BOp} (h : ValOut X Θ R E o tm st k) (hS : StRel X K w0 E st w) (hO : Oks E tm) (hbo : ∀ n a, bo ≠ .load n a := by intro _ _ hh; cases hh) : MovOut X K w0 Θ R E o tm bo st w k := by
  obtain ⟨v, f, h1, h2, h3⟩ := h
  refine ⟨v, st.withF f, E, h1, .refl _, hS.withF h2, hp_withF _ _ _, ?_, fun k b hb => by rw [withF_heap]; exact hb, .refl E, .of hbo, fun E'' st'' w'' ρ hE _ hS'' hR _ => ?_⟩
  · obtain ⟨ρ, hR⟩ := hO.rd o.op.operands.toList
    obtain ⟨y, hy, _⟩ := h3 E.fill ρ E.le_fill hR
    exact ⟨y, hy⟩
  · obtain ⟨y, hy, hrun⟩ := h3 E'' ρ hE hR
    exact ⟨E'', y, w'', .refl _, rfl, hrun w'', hS'', hy, fun _ _ h => h⟩

/-! ### Loads -/
theorem readB_okv (hc : CxOK X K w0) (hS : StRel X K w0 E st w) {b : Bid} {i : Nat} {v : AV} (h : readB X.cx st i b = some v) : okv E v := by
  cases b with
  | g n =>
    obtain ⟨t, ht, h⟩ := obind_inv h
    obtain ⟨x, h1, _⟩ := (hc.glob n t ht).2 _ v h
    exact ⟨x, h1 _⟩
  | r j =>
    obtain ⟨bl, hbl, h⟩ := obind_inv h
    rcases hS.blks j bl hbl with h0 | ⟨id, sh, cs, el, fr, _, _, hr⟩
    · exact h0.2.2 _ v h
    · obtain ⟨x, h1, _⟩ := hr.cells _ v h; exact okv_of h1
  | a k =>
    obtain ⟨t, ht, h⟩ := obind_inv h
    obtain ⟨b', o', _, _, hg⟩ := hS.ext.ro k t ht
    obtain ⟨x, h1, _⟩ := hg _ v h
    exact okv_of h1
theorem okl_of {l : List AV} (h : ∀ v ∈ l, okv E v) : ∃ xs, denL E.fill l = some xs := by
  induction l with
  | nil => exact ⟨[], rfl⟩
  | cons v l ih =>
    obtain ⟨x, hx⟩ := h v (by simp)
    obtain ⟨xs, hxs⟩ := ih fun u hu => h u (List.mem_cons_of_mem _ hu)
    exact ⟨x :: xs, denL_cons.2 ⟨x, xs, hx, hxs, rfl⟩⟩
theorem cellsFrom_okv (hc : CxOK X K w0) (hS : StRel X K w0 E st w) {b : Bid} {n i : Nat} {l : List AV} (h : cellsFrom X.cx st n i b = some l) : ∀ v ∈ l, okv E v := by
  intro v hv
  obtain ⟨j, hj⟩ := List.getElem?_of_mem hv
  exact readB_okv hc hS ((cellsFrom_spec h).2 j v hj)
theorem loadVar_okv (hc : CxOK X K w0) (hS : StRel X K w0 E st w) {n : Option Nat} {x : AAddr} {v : AV} (h : loadVar X.cx st n x = some v) : okv E v := by
  cases n with
  | none => exact readB_okv hc hS (b := x.b) (i := x.off) h
  | some n =>
    obtain ⟨l, hl, h⟩ := obind_inv h
    cases h
    obtain ⟨xs, hxs⟩ := okl_of (cellsFrom_okv hc hS hl)
    exact ⟨_, den_agg_of hxs⟩
theorem load_out (hc : CxOK X K w0) (hS : StRel X K w0 E st w) {t : TypeId} {x : Operand} {g : Option Nat} {b : BO} (hb : cO x = some b) (hg : aggN X.cx.und X.cx.size t = some g) (ho : o.op = .load t x) (h : (xLoad X.cx g st k (ev tm b)).holds Θ E.va R) : MovOut X K w0 Θ R E o tm (.load g b) st w k := by
  obtain ⟨a, ha, h⟩ := vbind_inv h
  obtain ⟨v, hv, h⟩ := outK_inv h
  refine ⟨v, st, E, h, .refl _, hS, .refl _ _, loadVar_okv hc hS hv, fun _ _ h => h, .refl E, fun n' a' e x hx => (by cases e; rw [ha] at hx; cases hx; exact hv), fun E'' st'' w'' ρ hE _ hS'' hR hl => ?_⟩
  have hv' := hl g b rfl a ha
  have hx := hR.get (x := x) (by rw [ho]; simp [Op.operands]) hb
  rw [asPtr_inv ha] at hx
  obtain ⟨ad, had, e0⟩ := den_ptr hx
  obtain ⟨y, hy, hrun⟩ := loadVar_sound hc hS'' hg hv' had
  exact ⟨E'', y, w'', .refl _, rfl, by simp [execOp, ho, e0, Instr.loadAt, Instr.sureAddr, hrun], hS'', hy, fun _ _ h => h⟩

/-! ### New blocks -/
noncomputable def St.blk (st : St) (b : Blk) : St := ⟨st.n + 1, st.nc, st.heap.set st.n (some b), st.live, st.x⟩
theorem newBlk_eq (st : St) (sz : Nat) (t : Tr AV) (z : List AV) (zn : Nat) (F : Nat → St → VC) (cv es : Nat) : newBlk st sz t z zn F cv es = F st.n (st.blk ⟨sz, t, z, zn, st.n, cv, es⟩) := by
  obtain ⟨n, nc, h, l, x⟩ := st
  show h.setK n _ _ = _
  rw [Tr.setK_eq, natK_eq]; rfl
theorem layK_eq {β : Type} (cs : List AV) (k : Tr AV → List AV → Nat → β) : layK (lenL cs) cs k = k (layB cs).1 (layB cs).2.1 (layB cs).2.2 := by
  unfold layB layK
  cases Nat.blt 4000 (lenL cs) with
  | false => simp only [bif_false, bulkK_eq]
  | true =>
    simp only [bif_true]
    unfold layT
    split
    · rename_i v r _
      cases allC v r with
      | false => simp only [bif_false, bulkK_eq]
      | true => simp only [bif_true, bulkK_eq]
    · simp only [bulkK_eq]
theorem allC_mem {v : AV} : ∀ {l : List AV}, allC v l = true → ∀ u ∈ l, u = v
  | [], _, u, hu => by cases hu
  | x :: l, h, u, hu => by
    have h : (Bool.rec false (allC v l) (eqC v x) : Bool) = true := h
    cases e : eqC v x with
    | false => rw [e] at h; cases h
    | true =>
      rw [e] at h
      rcases List.mem_cons.1 hu with rfl | hu
      · unfold eqC at e
        split at e
        · rw [Bool.and_eq_true] at e
          rw [kbeq_eq e.1, Nat.eq_of_beq_eq_true e.2]
        · rw [bbeq_eq, decide_eq_true_eq] at e; rw [e]
        · cases e
      · exact allC_mem h u hu
/-- What is laid down so is that. -/
theorem lay_spec (cs : List AV) : (∀ i v, (layB cs).1.get i = some v → i < cs.length) ∧ ∀ (i : Nat) (v : AV) (fam cv es : Nat), (⟨lenL cs, (layB cs).1, (layB cs).2.1, (layB cs).2.2, fam, cv, es⟩ : Blk).cell i = some v → cs[i]? = some v := by
  have plain : (∀ i v, (puts cs 0 .nil).get i = some v → i < cs.length) ∧ ∀ (i : Nat) (v : AV) (fam cv es : Nat), (⟨lenL cs, puts cs 0 .nil, [], 0, fam, cv, es⟩ : Blk).cell i = some v → cs[i]? = some v := by
    refine ⟨fun i v hv => ?_, fun i v fam cv es hv => ?_⟩
    · rw [puts_get] at hv
      split at hv
      · omega
      · simp at hv
    · rw [cell_eq] at hv
      simp only [puts_get] at hv
      by_cases c : 0 ≤ i ∧ i < 0 + cs.length
      · rw [if_pos c, Nat.sub_zero] at hv
        cases hci : cs[i]? with
        | none => rw [List.getElem?_eq_none_iff] at hci; omega
        | some u => rw [hci] at hv; exact hv
      · rw [if_neg c] at hv
        simp at hv
  unfold layB layK
  cases Nat.blt 4000 (lenL cs) with
  | false => simp only [bif_false, bulkK_eq]; exact plain
  | true =>
    simp only [bif_true]
    unfold layT
    split
    · rename_i v r hd
      cases ha : allC v r with
      | false => simp only [bif_false, bulkK_eq]; exact plain
      | true =>
        simp only [bif_true, bulkK_eq]
        rw [dropL_eq] at hd
        have hlen : 8 < cs.length := by
          have := congrArg List.length hd
          simp at this; omega
        have hrest : ∀ j, 8 ≤ j → j < cs.length → cs[j]? = some v := fun j h1 h2 => by
          have e : cs[j]? = (cs.drop 8)[j - 8]? := by rw [List.getElem?_drop]; congr 1; omega
          rw [e, hd]
          cases hj : j - 8 with
          | zero => rfl
          | succ q =>
            rw [List.getElem?_cons_succ]
            have hql : q < r.length := by
              have := congrArg List.length hd
              simp at this; omega
            rw [List.getElem?_eq_getElem hql, allC_mem ha _ (List.getElem_mem hql)]
        refine ⟨fun i u hu => ?_, fun i u fam cv es hu => ?_⟩
        · rw [takeL_eq, puts_get] at hu
          split at hu
          · rename_i c; simp at c; omega
          · simp at hu
        · rw [cell_eq] at hu
          simp only [takeL_eq, puts_get] at hu
          by_cases c : i < 8
          · rw [if_pos ⟨Nat.zero_le _, by simp; omega⟩, Nat.sub_zero, List.getElem?_take, if_pos c] at hu
            cases hci : cs[i]? with
            | none => rw [List.getElem?_eq_none_iff] at hci; omega
            | some y => rw [hci] at hu; exact hu
          · rw [if_neg (by simp; omega)] at hu
            simp only [Tr.get_nil, lenL_eq] at hu
            by_cases c2 : i < cs.length
            · rw [if_pos c2] at hu
              simp [Nat.mod_one] at hu
              rw [hrest i (by omega) c2, hu]
            · rw [if_neg c2] at hu; cases hu
    · simp only [bulkK_eq]; exact plain
theorem newCells_eq (st : St) (cs : List AV) (F : Nat → St → VC) (cv es : Nat) : newCells st cs F cv es = F st.n (st.blk ⟨lenL cs, (layB cs).1, (layB cs).2.1, (layB cs).2.2, st.n, cv, es⟩) := by
  unfold newCells
  rw [natK_eq, layK_eq, newBlk_eq]
theorem blk_n (hS : StRel X K w0 E st w) (p : Option (Nat × Nat)) : (E.push p).m[st.n]? = some p := by rw [← hS.n_eq]; exact push_new E p
theorem hp_blk (hS : StRel X K w0 E st w) (b : Blk) (p : Option (Nat × Nat)) : HP E (E.push p) st (st.blk b) :=
  hp_push E p hS.n_eq (fun k hk => by show (st.heap.set st.n (some b)).get k = _; rw [Tr.get_set_other _ _ (by omega)]) (fun _ _ => rfl) rfl
/-- Something new, now or late. -/
theorem new_out {bo : BOp} (hS : StRel X K w0 E st w) {b : Blk} {v : AV} (hfam : b.fam = st.n) (hcv : b.cv = 0) (hok : ∀ i u, b.cell i = some u → okv (E.push none) u) (hv : okv (E.push none) v) (hh : (k v (st.blk b)).holds Θ E.va R)
    (hrun : ∀ E'' w'' ρ, E.Le E'' → Rd E'' tm ρ o.op.operands.toList → E''.m[st.n]? = some none → ∃ ys el y, (execOp ρ o).run X.P w'' = .ok (.value y) (w''.alloc (.cells ys el)) ∧ BlkRel (E''.set st.n (w''.heap.size, 0)) b 0 ys (0, 0) ∧ v.den (E''.set st.n (w''.heap.size, 0)) = some y)  (hbo : ∀ n a, bo ≠ .load n a := by intro _ _ hh; cases hh) :
    MovOut X K w0 Θ R E o tm bo st w k := by
  have hS' : StRel X K w0 (E.push none) (st.blk b) w := hS.newCells hfam (.inl ⟨rfl, rfl, hcv, hok⟩)
  refine ⟨v, st.blk b, E.push none, hh, E.le_push none, hS', hp_blk hS b none, hv, fun j bj hj => ?_, .push E, .of hbo, fun E'' st'' w'' ρ hE hH hS'' hR _ => ?_⟩
  · have := (hS.lt j bj hj).1
    show (st.heap.set st.n (some b)).get j = _
    rw [Tr.get_set_other _ _ (by omega)]; exact hj
  · have hlen : (E.push none).m.length = st.n + 1 := by simp [Env.push, hS.n_eq]
    obtain ⟨h1, h2, h3⟩ := hH st.n (by rw [hS.n_eq]; exact Nat.le_refl _) (by omega)
    obtain ⟨ys, el, y, g1, g2, g3⟩ := hrun E'' w'' ρ ((E.le_push none).trans hE) hR h1
    refine ⟨E''.set st.n (w''.heap.size, 0), y, _, Env.le_set h1, rfl, g1, hS''.fill h1 _ (fun b' hb' => ?_) (fun o' ho' => ?_), g3, fun j hj hn => ?_⟩
    · rw [h2] at hb'
      have : (st.heap.set st.n (some b)).get st.n = some b' := hb'
      rw [Tr.get_set_same] at this
      cases this
      exact ⟨hfam, ys, el, rfl, g2⟩
    · rw [h3] at ho'
      have : st.x.objs.get st.n = some o' := ho'
      exact absurd (hS.objs _ _ this).1 (Nat.lt_irrefl _)
    · rw [set_other]; exact hn
      rw [hlen, hS.n_eq] at hj; omega
theorem set_new {E : Env} {k : Nat} {p : Nat × Nat} (h : E.m[k]? = some none) : (E.set k p).m[k]? = some (some p) := set_same (List.getElem?_eq_some_iff.1 h).1
theorem ptr_okv (hS : StRel X K w0 E st w) : okv (E.push none) (.ptr (some ⟨.r st.n, 0⟩)) := by
  refine ⟨.pointer (some ⟨0, 0 + 0, none⟩), den_ptr_of (aden_r_of (p := (0, 0)) ?_)⟩
  rw [fill_get, blk_n hS]; rfl
theorem ptr_den {E'' : Env} {j id : Nat} (h : E''.m[j]? = some none) : (AV.ptr (some ⟨.r j, 0⟩)).den (E''.set j (id, 0)) = some (.pointer (some ⟨id, 0, none⟩)) := by
  rw [den_ptr_of (aden_r_of (set_new h))]; rfl
theorem slice_okv (hS : StRel X K w0 E st w) {l c : Nat} (h : l ≤ c) : okv (E.push none) (.slice (some ⟨.r st.n, 0⟩) l (.k c)) := by
  have : aden (E.push none).fill ⟨.r st.n, 0⟩ = some ⟨0, 0 + 0, none⟩ := aden_r_of (p := (0, 0)) (by rw [fill_get, blk_n hS]; rfl)
  exact ⟨.slice (some ⟨0, 0 + 0, none⟩) l c, by simp only [AV.den, this, cden]; rw [if_pos h]⟩
theorem slice_den {E'' : Env} {j id l c : Nat} (h : E''.m[j]? = some none) (hle : l ≤ c) : (AV.slice (some ⟨.r j, 0⟩) l (.k c)).den (E''.set j (id, 0)) = some (.slice (some ⟨id, 0, none⟩) l c) := by
  have : aden (E''.set j (id, 0)) ⟨.r j, 0⟩ = some ⟨id, 0 + 0, none⟩ := aden_r_of (set_new h)
  simp only [AV.den, this, cden]; rw [if_pos hle]
/-- A block of cells that are listed. -/
theorem blkRel_list {E : Env} {cs : List AV} {ys : Array Value} {n cv es : Nat} {xs : List Value} (hx : denL E cs = some xs) (hy : ∀ (i : Nat) (y : Value), xs[i]? = some y → ys[i]? = some y) (hcap : ∀ i, cv = i + 1 → ∃ c, E.caps[i]? = some c ∧ c * es ≤ ys.size ∧ xs.length ≤ c * es) : BlkRel E ⟨lenL cs, (layB cs).1, (layB cs).2.1, (layB cs).2.2, n, cv, es⟩ 0 ys (0, 0) := by
  have hl := denL_length hx
  have hcell : ∀ i v, (⟨lenL cs, (layB cs).1, (layB cs).2.1, (layB cs).2.2, n, cv, es⟩ : Blk).cell i = some v → cs[i]? = some v := fun i v hv => (lay_spec cs).2 i v _ _ _ hv
  refine ⟨.inl rfl, ?_, fun i v hv => ?_, fun i hi => ?_, fun i v hv => ?_⟩
  · show lenL cs + 0 ≤ ys.size
    rw [lenL_eq, ← hl, Nat.add_zero]
    rcases Nat.eq_zero_or_pos xs.length with e | e
    · omega
    · have h1 : xs.length - 1 < xs.length := by omega
      have := (Array.getElem?_eq_some_iff.1 (hy _ _ (List.getElem?_eq_getElem h1))).1
      omega
  · show i < lenL cs
    rw [lenL_eq]
    exact (lay_spec cs).1 i v hv
  · obtain ⟨c, h1, h2, h3⟩ := hcap i hi
    exact ⟨c, h1, by rw [Nat.add_zero]; exact h2, by show lenL cs ≤ _; rw [lenL_eq, ← hl]; exact h3⟩
  · obtain ⟨y, h1, h2⟩ := denL_get hx (hcell i v hv)
    exact ⟨y, h1, hy i y h2⟩
theorem list_okv {cs : List AV} {n cv es : Nat} (h : ∀ v ∈ cs, okv E v) : ∀ i u, (⟨lenL cs, (layB cs).1, (layB cs).2.1, (layB cs).2.2, n, cv, es⟩ : Blk).cell i = some u → okv E u := by
  intro i u hu
  exact h u (List.mem_of_getElem? ((lay_spec cs).2 i u _ _ _ hu))
/-- A block all of whose cells are first values. -/
theorem eqAV_eq {a b : AV} (h : eqAV a b = true) : a = b := by
  unfold eqAV at h
  split at h
  · rw [Bool.and_eq_true, beq_iff, decide_eq_true_eq] at h
    rw [kbeq_eq h.1, h.2]
  · rw [bbeq_eq, decide_eq_true_eq] at h; rw [h]
  · cases h
theorem allSame_mem {v : AV} : ∀ {l : List AV}, allSame v l = true → ∀ u ∈ l, u = v
  | [], _, u, hu => by cases hu
  | x :: l, h, u, hu => by
    obtain ⟨h1, h2⟩ : eqAV v x = true ∧ allSame v l = true := by
      change bif_ (eqAV v x) (allSame v l) false = true at h
      cases e : eqAV v x with
      | true => rw [e] at h; exact ⟨rfl, h⟩
      | false => rw [e] at h; cases h
    cases hu with
    | head => exact (eqAV_eq h1).symm
    | tail _ hu => exact allSame_mem h2 u hu
theorem uni_get {z : List AV} {i : Nat} {u : AV} (hz : 0 < z.length) (h : (uni z)[i % (uni z).length]? = some u) : z[i % z.length]? = some u := by
  cases z with
  | nil => simp at hz
  | cons v l =>
    simp only [uni] at h
    cases e : allSame v l with
    | false => rw [e] at h; exact h
    | true =>
      rw [e, bif_true] at h
      simp [Nat.mod_one] at h
      subst h
      have hlt : i % (v :: l).length < (v :: l).length := Nat.mod_lt _ hz
      rw [List.getElem?_eq_getElem hlt]
      congr 1
      have := List.getElem_mem hlt
      cases this' : (v :: l)[i % (v :: l).length] with
      | _ => 
        rw [this'] at this
        cases this with
        | head => rfl
        | tail _ hm => exact allSame_mem e _ hm
theorem uni_len (z : List AV) : (uni z).length = 0 ↔ z.length = 0 := by
  cases z with
  | nil => simp [uni]
  | cons v l =>
    simp only [uni]
    cases allSame v l <;> simp
theorem zcell {sz : Nat} {z : List AV} {n cv es : Nat} {i : Nat} {u : AV} (h : (⟨sz, .nil, uni z, lenL (uni z), n, cv, es⟩ : Blk).cell i = some u) : i < sz ∧ 0 < z.length ∧ z[i % z.length]? = some u := by
  rw [cell_eq] at h
  simp only [Tr.get_nil] at h
  split at h
  · rename_i hlt
    rw [lenL_eq] at h
    split at h
    · cases h
    · rename_i j hj
      have hz : 0 < z.length := by
        rcases Nat.eq_zero_or_pos z.length with e | e
        · rw [(uni_len z).2 e] at hj; cases hj
        · exact e
      rw [show j + 1 = (uni z).length from hj.symm] at h
      exact ⟨hlt, hz, uni_get hz h⟩
  · cases h
theorem zero_okv {sz : Nat} {z : List AV} {n cv es : Nat} {v : Value} (hz : ∀ E, denL E z = some v.cells.toList) : ∀ i u, (⟨sz, .nil, uni z, lenL (uni z), n, cv, es⟩ : Blk).cell i = some u → okv E u := by
  intro i u hu
  obtain ⟨_, _, h⟩ := zcell hu
  obtain ⟨y, hy, _⟩ := denL_get (hz E.fill) h
  exact ⟨y, hy⟩
theorem blkRel_zero {sz : Nat} {z : List AV} {n es : Nat} {v : Value} {ys : Array Value} (hz : ∀ E, denL E z = some v.cells.toList) (hroom : sz ≤ ys.size) (hy : ∀ i, i < sz → ys[i]? = v.cells[i % v.cells.size]?) : BlkRel E ⟨sz, .nil, uni z, lenL (uni z), n, 0, es⟩ 0 ys (0, 0) := by
  refine ⟨.inl rfl, hroom, fun i v hv => (by simp at hv), fun i hi => (by cases hi), fun i u hu => ?_⟩
  obtain ⟨h1, h2, h3⟩ := zcell hu
  obtain ⟨y, g1, g2⟩ := denL_get (hz E) h3
  refine ⟨y, g1, ?_⟩
  have hl := denL_length (hz E)
  rw [Nat.add_zero, hy i h1]
  simp at hl
  rw [hl]; simpa using g2

theorem alloc_out {bo : BOp} (hc : CxOK X K w0) (hS : StRel X K w0 E st w) {t : TypeId} {z : List AV} (hz : X.cx.zero.get t = some z) (ho : o.op = .alloc t) (h : (newBlk st (lenL z) .nil (uni z) (lenL (uni z)) (newPtr k)).holds Θ E.va R) (hbo : ∀ n a, bo ≠ .load n a := by intro _ _ hh; cases hh) : MovOut X K w0 Θ R E o tm bo st w k := by
  rw [newBlk_eq] at h
  obtain ⟨i, v, h1, h2, h3, h4, h5, h6⟩ := hc.zero t z hz
  have hl := denL_length (h5 E)
  refine new_out (hbo := hbo) (v := .ptr (some ⟨.r st.n, 0⟩)) hS rfl rfl (zero_okv h5) (ptr_okv hS) h fun E'' w'' ρ _ _ hn => ⟨v.cells, t, _, ?_, blkRel_zero h5 ?_ fun i hi => ?_, ptr_den hn⟩
  · simp [execOp, ho, Instr.alloc, zeroValue, typeInfo, h1, h2, newVar, newRow, Sem.run, program]
  · rw [lenL_eq, ← hl]; simp
  · rw [lenL_eq] at hi
    rw [Nat.mod_eq_of_lt]
    simp at hl; omega
theorem box_out {bo : BOp} (hS : StRel X K w0 E st w) (hO : Oks E tm) {t : TypeId} {x : Operand} {b : BO} (hb : cO x = some b) (ho : o.op = .box t x) (h : (vif (notDead (ev tm b)) (newCells st (ev tm b).cells (newPtr k))).holds Θ E.va R) (hbo : ∀ n a, bo ≠ .load n a := by intro _ _ hh; cases hh) : MovOut X K w0 Θ R E o tm bo st w k := by
  obtain ⟨hd, h⟩ := vif_inv h
  rw [newCells_eq] at h
  have hcells : ∀ u ∈ (ev tm b).cells, okv (E.push none) u := by
    obtain ⟨y, hy⟩ := (hO.ev hb).mono (E.le_push none)
    obtain ⟨xs, hxs, _⟩ := den_cells hd hy
    intro u hu
    obtain ⟨j, hj⟩ := List.getElem?_of_mem hu
    obtain ⟨y, h1, _⟩ := denL_get hxs hj
    exact ⟨y, h1⟩
  refine new_out (hbo := hbo) (v := .ptr (some ⟨.r st.n, 0⟩)) hS rfl rfl (list_okv hcells) (ptr_okv hS) h fun E'' w'' ρ _ hR hn => ?_
  have hx := hR.get (x := x) (by rw [ho]; simp [Op.operands]) hb
  obtain ⟨xs, hxs, hcs⟩ := den_cells hd (den_mono (E''.le_set (id := w''.heap.size) hn) _ hx)
  refine ⟨(ρ x).cells, t, _, ?_, blkRel_list hxs (fun i y hy => by rw [← hcs] at hy; simpa using hy) (fun i hi => (by cases hi)), ptr_den hn⟩
  simp [execOp, ho, Instr.box, newVar, newRow]
end
end Go.Sy
/-! Operations that may come late: all of them. -/
namespace Go.Sy
section
variable {X : Tabs} {K : Nat → Prop} {w0 : World} {E : Env} {st : St} {w : World} {Θ : Pred} {R : List Back} {tm : Tm} {k : Kt} {o : Oper}

theorem arr0 {α : Type} (f : Nat → α) : (Array.range 0).map f = #[] := by apply Array.ext'; simp [Array.toList_range]
theorem run_buildSlice0 {P : Program} (w : World) (t e : TypeId) (parts : Array (Nat × Value)) (cells : Array Value) (ie : TypeInfo) (hu : P.underlying t = some (.slice e)) (hie : P.info? e = some ie)
    (h : Instr.fill (fun i => some (i * ie.size, ie.size)) #[] parts.toList = some cells) :
    (Instr.buildSlice t 0 parts).run P w = .ok (.slice (some ⟨w.heap.size, 0, none⟩) 0 0) (w.alloc (.cells cells e)) := by
  have e0 : Array.map (fun _ => (default : Value)) (Array.range 0) = #[] := arr0 _
  simp [Instr.buildSlice, run_underlying hu, sizeOf, typeInfo, hie, newRow]
  rw [e0, h]
  simp
theorem run_buildSliceAny {P : Program} (w : World) (t e : TypeId) (len : Nat) (parts : Array (Nat × Value)) (cells : Array Value) (ie : TypeInfo) (z : Value) (hu : P.underlying t = some (.slice e)) (hie : P.info? e = some ie) (hz : ie.zero = some z) (hsmall : len * ie.size ≤ 65536) (hpos : 0 < ie.size)
    (h : Instr.fill (fun i => some (i * ie.size, ie.size)) ((Array.range (len * ie.size)).map (z.cells[· % z.cells.size]!)) parts.toList = some cells) :
    (Instr.buildSlice t len parts).run P w = .ok (.slice (some ⟨w.heap.size, 0, none⟩) len len) (w.alloc (.cells cells e)) := by
  rcases Nat.eq_zero_or_pos len with c | c
  · subst c
    refine run_buildSlice0 w t e parts cells ie hu hie ?_
    rw [Nat.zero_mul, arr0] at h
    exact h
  · have := Nat.mul_pos c hpos
    exact run_buildSlice w t e len parts cells ie z hu hie hz (by omega) (by omega) h
theorem rep_made (z : List Value) : ∀ n : Nat, (List.replicate n z).flatten = (madeCells z.toArray (n * z.length)).toList := by
  intro n
  apply List.ext_getElem?
  intro i
  simp only [madeCells, Array.toList_map, Array.toList_range, List.getElem?_map]
  by_cases c : i < n * z.length
  · rw [List.getElem?_range c]
    simp only [Option.map_some]
    induction n generalizing i with
    | zero => simp at c
    | succ n ih =>
      rw [List.replicate_succ, List.flatten_cons]
      by_cases c2 : i < z.length
      · rw [List.getElem?_append_left c2, Nat.mod_eq_of_lt (by simpa using c2)]
        simp [c2, getElem!_pos]
      · rw [List.getElem?_append_right (by omega)]
        have hm : i % z.toArray.size = (i - z.length) % z.toArray.size := by simp; rw [Nat.mod_eq_sub_mod (by omega)]
        rw [hm]
        exact ih (i - z.length) (by rw [Nat.succ_mul] at c; omega)
  · rw [List.getElem?_eq_none (by simp [List.length_flatten]; omega), List.getElem?_eq_none (by simp; omega)]
    rfl
theorem bslice_out {bo : BOp} {cxr : Rec} (hc : CxOK X K w0) (hS : StRel X K w0 E st w) (hO : Oks E tm) {t : TypeId} {len : Nat} {parts : Array (Nat × Operand)} {d : TypeDesc} {b : BOp} (hd : X.cx.und.get t = some d) (hb : cBslice X.cx.size X.cx.zero len parts.toList d = some b) (ho : o.op = .buildSlice t len parts)
    (h : (xop b X.cx cxr tm st k).holds Θ E.va R) (hbo : ∀ n a, bo ≠ .load n a := by intro _ _ hh; cases hh) : MovOut X K w0 Θ R E o tm bo st w k := by
  have hu := hc.und t d hd
  have hops : o.op.operands.toList = parts.toList.map (·.2) := by rw [ho]; rfl
  unfold cBslice at hb
  split at hb
  · rename_i e
    obtain ⟨n, hn, hb⟩ := obind_inv hb
    obtain ⟨z, hz, hb⟩ := obind_inv hb
    obtain ⟨ps, hps, hb⟩ := obind_inv hb
    obtain ⟨hcond, hb⟩ := bif_some hb
    cases hb
    simp only [Bool.and_eq_true, ble_iff, blt_iff, decide_eq_true_eq, natMul] at hcond
    obtain ⟨l, hl, h⟩ := vbind_inv h
    rw [newCells_eq] at h
    obtain ⟨ie, hie, hne⟩ := hc.size _ _ hn
    obtain ⟨it, zv, h1, h2, h3, h4, h5, _⟩ := hc.zero e z hz
    rw [hie] at h1; cases h1
    have hzl := denL_length (h5 E)
    have hzs : zv.cells.size = n := by rw [← hne, h3, ← hzl]; simp
    have mk : ∀ (E : Env) (ρ : Operand → Value), Rd E tm ρ o.op.operands.toList → ∃ xs', denL E l = some xs' ∧ Instr.fill (fun i => some (i * ie.size, ie.size)) ((Array.range (len * ie.size)).map (zv.cells[· % zv.cells.size]!)) (parts.map fun (i, x) => (i, ρ x)).toList = some xs'.toArray := by
      intro E ρ hR
      rw [hops] at hR
      have hrep := denL_rep (h5 E) len
      rw [rep_made zv.cells.toList len] at hrep
      obtain ⟨xs', e1, e2⟩ := build_sound (place' := fun i => some (i * ie.size, ie.size)) (fun i p hp => by rw [hne]; exact hp) hps hl hrep hR
      refine ⟨xs', e1, ?_⟩
      have heq : (Array.range (len * ie.size)).map (zv.cells[· % zv.cells.size]!) = (madeCells zv.cells.toList.toArray (len * zv.cells.toList.length)).toList.toArray := by
        apply Array.ext'; simp [madeCells, hzs, hne]
      rw [heq, Array.toList_map]
      exact e2
    have hoks : ∀ u ∈ l, okv (E.push none) u := by
      obtain ⟨ρ, hR⟩ := hO.rd o.op.operands.toList
      obtain ⟨xs', e1, _⟩ := mk E.fill ρ hR
      intro u hu
      obtain ⟨j, hj⟩ := List.getElem?_of_mem hu
      obtain ⟨y, g1, _⟩ := denL_get e1 hj
      exact okv.mono (E.le_push none) ⟨y, g1⟩
    refine new_out (hbo := hbo) (v := .slice (some ⟨.r st.n, 0⟩) len (.k len)) hS rfl rfl (list_okv hoks) (slice_okv hS (Nat.le_refl _)) h fun E'' w'' ρ _ hR hnn => ?_
    obtain ⟨xs', e1, e2⟩ := mk E'' ρ hR
    refine ⟨xs'.toArray, e, _, ?_, blkRel_list (denL_mono (E''.le_set (id := w''.heap.size) hnn) _ e1) (fun i y hy => by simpa using hy) (fun i hi => (by cases hi)), slice_den hnn (Nat.le_refl _)⟩
    have hrun := run_buildSliceAny (P := X.P) w'' t e len (parts.map fun (i, x) => (i, ρ x)) xs'.toArray ie zv hu hie h2 (by rw [hne]; exact hcond.1) (by rw [hne]; exact hcond.2) e2
    have hex : (execOp ρ o).run X.P w'' = ((Instr.buildSlice t len (parts.map fun (i, x) => (i, ρ x))) >>= fun v => pure (Next.value v) : Sem Next).run X.P w'' := by simp only [execOp, ho]
    rw [hex, Sem.run_bind, hrun]; rfl
  · cases hb
theorem mksl_out {bo : BOp} (hc : CxOK X K w0) (hS : StRel X K w0 E st w) (hO : Oks E tm) {t e : TypeId} {n : Nat} {z : List AV} {l c : Operand} {bl bc : BO} (hd : X.cx.und.get t = some (.slice e)) (hn : X.cx.size.get e = some n) (hz : X.cx.zero.get e = some z) (hl : cO l = some bl) (hcc : cO c = some bc) (hpos : 0 < n) (ho : o.op = .makeSlice t l c)
    (h : (xMksl n (lenL (uni z)) (uni z) st k (ev tm bl) (ev tm bc)).holds Θ E.va R) (hbo : ∀ n a, bo ≠ .load n a := by intro _ _ hh; cases hh) : MovOut X K w0 Θ R E o tm bo st w k := by
  obtain ⟨lv, hlv, h⟩ := vbind_inv h
  obtain ⟨cv, hcv, h⟩ := vbind_inv h
  obtain ⟨hcond, h⟩ := vif_inv h
  simp only [Bool.and_eq_true, ble_iff, decide_eq_true_eq] at hcond
  rw [natK_eq, newBlk_eq] at h
  obtain ⟨kl, e1, e2, _⟩ := natOf_inv hlv (hO.ev hl)
  obtain ⟨kc, e3, e4, _⟩ := natOf_inv hcv (hO.ev hcc)
  obtain ⟨ie, hie, hne⟩ := hc.size _ _ hn
  obtain ⟨it, zv, h1, h2, h3, h4, h5, _⟩ := hc.zero e z hz
  rw [hie] at h1; cases h1
  have hzl := denL_length (h5 E)
  have hzs : zv.cells.size = n := by rw [← hne, h3, ← hzl]; simp
  refine new_out (hbo := hbo) (v := .slice (some ⟨.r st.n, 0⟩) lv (.k cv)) hS rfl rfl (zero_okv h5) (slice_okv hS hcond.1) h fun E'' w'' ρ _ hR hnn => ?_
  have hL := hR.get (x := l) (by rw [ho]; simp [Op.operands]) hl
  have hC := hR.get (x := c) (by rw [ho]; simp [Op.operands]) hcc
  rw [e1] at hL
  rw [e3] at hC
  have hL := (den_int hL).2
  have hC := (den_int hC).2
  rw [e2] at hL
  rw [e4] at hC
  have hrun := run_make (P := X.P) w'' t e ie zv (hc.und t _ hd) hie h2 kl kc lv cv (by omega) (by omega) (by
    have : ie.bytes * cv ≤ 1048576 * 16777216 := Nat.mul_le_mul h4 hcond.2
    have : ((ie.bytes * cv : Nat) : Int) ≤ 281474976710656 := by omega
    simpa using this) (by omega)
  simp only [Int.toNat_natCast] at hrun
  refine ⟨madeCells zv.cells (cv * ie.size), e, _, by simp [execOp, ho, hL, hC, hrun], blkRel_zero h5 ?_ fun i hi => ?_, slice_den hnn hcond.1⟩
  · simp [madeCells, hne]
  · have hi : i < cv * n := hi
    rw [hne]
    simp only [madeCells, Array.getElem?_map]
    have hlt : i % zv.cells.size < zv.cells.size := Nat.mod_lt _ (by omega)
    rw [Array.getElem?_eq_getElem hlt]
    simp [hi, getElem!_pos, hlt]
theorem mkmap_out {bo : BOp} (hc : CxOK X K w0) (hS : StRel X K w0 E st w) {t : TypeId} {r : Option Operand} {d : TypeDesc} {p : TypeId × TypeId} (hd : X.cx.und.get t = some d) (hp : mapKE d = some p) (hr : hintOK r = true) {rb : Option BO} (hrb : cOo r = some rb) (ho : o.op = .makeMap t r)
    (h : (newO st (.map [] 0) fun r st => k (.map (some r)) st).holds Θ E.va R) (hbo : ∀ n a, bo ≠ .load n a := by intro _ _ hh; cases hh) : MovOut X K w0 Θ R E o tm bo st w k := by
  rw [newO_eq] at h
  refine ⟨.map (some st.n), st.obj (.map [] 0), E.push none, h, E.le_push none, hS.newObj _, hp_obj hS _, ⟨.map (some 0), ?_⟩, fun _ _ h => h, .push E, .of hbo, fun E'' st'' w'' ρ hE hH hS'' hR _ => ?_⟩
  · have : (E.push none).fill.m[st.n]? = some (some (0, 0)) := by rw [fill_get, blk_n hS]; rfl
    simp [AV.den, this]
  · have hlen : (E.push none).m.length = st.n + 1 := by simp [Env.push, hS.n_eq]
    obtain ⟨h1, h2, h3⟩ := hH st.n (by rw [hS.n_eq]; exact Nat.le_refl _) (by omega)
    refine ⟨E''.set st.n (w''.heap.size, 0), .map (some w''.heap.size), w''.alloc (.map #[] 0), Env.le_set h1, rfl, ?_, hS''.fill h1 _ (fun b' hb' => ?_) (fun o' ho' => ?_), ?_, fun j hj hn => ?_⟩
    · have hk : ∃ a b, d = .map a b := by cases d <;> first | (cases hp; done) | exact ⟨_, _, rfl⟩
      obtain ⟨a, b, rfl⟩ := hk
      have hu := hc.und t _ hd
      cases r with
      | none => simp [execOp, ho, Instr.makeMap]
      | some x =>
        have : ∃ kd n, x = .const (.int kd n) := by
          cases x <;> simp only [hintOK] at hr <;> try (cases hr; done)
          rename_i v
          cases v <;> simp at hr
          exact ⟨_, _, rfl⟩
        obtain ⟨kd, n, rfl⟩ := this
        have hv : ρ (.const (.int kd n)) = .int kd n := by
          obtain ⟨c, hc1, _⟩ := obind_inv hrb
          obtain ⟨v, hv, hc2⟩ := obind_inv hc1
          cases hc2
          have h0 := hR.get (x := .const (.int kd n)) (by rw [ho]; simp [Op.operands]) hc1
          have h2 := den_ofVal (E := E'') hv
          have h3 : (ev tm (.c v)).den E'' = some (.int kd n) := h2
          rw [h3] at h0; exact (Option.some.inj h0).symm
        simp [execOp, ho, Instr.makeMap, run_underlying hu, hv, asInt, asIntOf]
    · rw [h2] at hb'
      have : st.heap.get st.n = some b' := hb'
      exact absurd (hS.lt _ _ this).1 (Nat.lt_irrefl _)
    · rw [h3] at ho'
      have : (st.x.objs.set st.n (some (.map [] 0))).get st.n = some o' := ho'
      rw [Tr.get_set_same] at this
      cases this
      exact ⟨rfl, trivial⟩
    · simp [AV.den, set_new h1]
    · rw [set_other]; exact hn
      rw [hlen, hS.n_eq] at hj; omega
end
end Go.Sy
/-! Operations that may come late: a mark; all of them together. -/
namespace Go.Sy
section
variable {X : Tabs} {K : Nat → Prop} {w0 : World} {E : Env} {st : St} {w : World} {Θ : Pred} {R : List Back} {tm : Tm} {k : Kt} {o : Oper}

theorem freeze_other (w : World) (a : Addr) (n : Nat) {i : Nat} (h : i ≠ a.block) : (w.freeze a n).heap[i]? = w.heap[i]? := by
  unfold World.freeze
  split
  · rfl
  · simp only [Array.getElem?_modify]; rw [if_neg (by omega)]
theorem freeze_same (w : World) (id m : Nat) {cs : Array Value} {el : TypeId} {fr : Nat × Nat} (h : w.heap[id]? = some (.cells cs el fr)) :
    ∃ fr', (w.freeze ⟨id, m, none⟩ 1).heap[id]? = some (.cells cs el fr') ∧ ((fr.1 = fr.2 ∨ m ≤ fr.1) → m ≤ fr'.1) := by
  obtain ⟨lo, hi⟩ := fr
  refine ⟨if lo == hi then (m, m + 1) else (min lo m, max hi (m + 1)), ?_, fun hfr => ?_⟩
  · simp [World.freeze, Array.getElem?_modify, h]
  · by_cases e : lo = hi
    · simp [e]
    · have : (lo == hi) = false := by simpa using e
      rw [this]
      rcases hfr with h | h
      · exact absurd h e
      · simp only [Bool.false_eq_true, if_false]; simp only at h; omega
theorem freeze_size (w : World) (a : Addr) (n : Nat) : (w.freeze a n).heap.size = w.heap.size := by
  unfold World.freeze
  split
  · rfl
  · simp
theorem StRel.freeze (hS : StRel X K w0 E st w) {id : Nat} (hid : ¬ K id) {cs : Array Value} {el : TypeId} {fr : Nat × Nat} (hh : w.heap[id]? = some (.cells cs el fr)) : StRel X K w0 E st (w.freeze ⟨id, cs.size, none⟩ 1) := by
  have hoth : ∀ i, i ≠ id → (w.freeze ⟨id, cs.size, none⟩ 1).heap[i]? = w.heap[i]? := fun i hi => freeze_other w _ 1 hi
  obtain ⟨fr', h1, h2⟩ := freeze_same w id cs.size hh
  refine ⟨hS.n_eq, hS.c_eq, hS.z_eq, hS.a_eq, hS.o_eq, hS.klt, ?_, fun k p hp => by rw [freeze_size]; exact hS.ids k p hp, hS.lt, fun k b hk => ?_, hS.fams, hS.livelt, hS.lives, fun k o hk => ?_, hS.oinj, hS.apart, hS.facts, hS.famh, hS.liveh, hS.ext⟩
  · have hos : (w.freeze ⟨id, cs.size, none⟩ 1).os = w.os ∧ (w.freeze ⟨id, cs.size, none⟩ 1).tape = w.tape ∧ (w.freeze ⟨id, cs.size, none⟩ 1).output = w.output := by
      unfold World.freeze; split <;> exact ⟨rfl, rfl, rfl⟩
    exact hS.kept.trans ⟨hos.1, hos.2.1, hos.2.2, by rw [freeze_size]; exact Nat.le_refl _, fun j hj => hoth j (fun e => hid (e ▸ hj))⟩
  · rcases hS.blks k b hk with h | ⟨id2, sh, cs2, el2, fr2, hm, hh2, hr⟩
    · exact .inl h
    · by_cases e : id2 = id
      · subst e
        rw [hh] at hh2
        cases hh2
        exact .inr ⟨id2, sh, cs, el, fr', hm, h1, ⟨.inr (h2 hr.free), hr.room, hr.bnd, hr.cap, hr.cells⟩⟩
      · exact .inr ⟨id2, sh, cs2, el2, fr2, hm, by rw [hoth _ e]; exact hh2, hr⟩
  · obtain ⟨g1, g2⟩ := hS.objs k o hk
    refine ⟨g1, g2.imp (fun h => h) fun ⟨id2, ob, g3, g4, g5⟩ => ⟨id2, ob, g3, ?_, g5⟩⟩
    rw [hoth]; exact g4
    rintro rfl
    rw [hh] at g4; cases g4
    exact g5.notCells
theorem mark_out (hc : CxOK X K w0) (hS : StRel X K w0 E st w) (hO : Oks E tm) {bo : BOp} {s : TypeId} {sd : TypeDesc} {x : Operand} {b : BO} {j off n : Nat} {c : Cap} (hb : cO x = some b) (hs : X.cx.und.get s = some sd) (hev : ev tm b = .slice (some ⟨.r j, off⟩) n c) (heb : ebOf X.cx.und sd sd = true) (ho : o.op = .convert s s x)
    (h : (k (.slice (some ⟨.r j, off⟩) n c) st).holds Θ E.va R) (hbo : ∀ n a, bo ≠ .load n a := by intro _ _ hh; cases hh) : MovOut X K w0 Θ R E o tm bo st w k := by
  have hok := hO.ev hb
  rw [hev] at hok
  refine ⟨_, st, E, h, .refl _, hS, .refl _ _, hok, fun _ _ h => h, .refl E, .of hbo, fun E'' st'' w'' ρ hE _ hS'' hR _ => ?_⟩
  have hx := hR.get (x := x) (by rw [ho]; simp [Op.operands]) hb
  rw [hev] at hx
  have hsl : ∃ e, sd = .slice e ∧ X.P.underlying e = some (.int .u8) := by
    cases sd <;> first | (cases heb; done) | skip
    rename_i e
    have h8 : isU8 X.cx.und e = true := heb
    unfold isU8 at h8
    cases hd : X.cx.und.get e with
    | none => rw [hd] at h8; cases h8
    | some d =>
      rw [hd] at h8
      refine ⟨e, rfl, ?_⟩
      have := hc.und e d hd
      cases d <;> first | (cases h8; done) | skip
      rename_i kd
      cases kd <;> first | (cases h8; done) | exact this
  obtain ⟨e, rfl, he⟩ := hsl
  have hu := hc.und s _ hs
  rcases den_slice_inv hx with ⟨e1, _⟩ | ⟨p, ad, cp, e1, had, _, _, e0⟩
  · cases e1
  · cases e1
    obtain ⟨q, hq, rfl⟩ := aden_r had
    have hex : ∀ w2, (markStringish ⟨q.1, off + q.2, none⟩).run X.P w'' = .ok () w2 → (execOp ρ o).run X.P w'' = .ok (.value (.slice (some ⟨q.1, off + q.2, none⟩) n cp)) w2 := by
      intro w2 hw2
      rw [run_conv ho, e0]
      unfold convert
      simp [run_underlying hu, run_underlying he, hw2]
    cases hsh : w''.shape? q.1 with
    | none =>
      refine ⟨E'', _, w'', .refl _, rfl, hex w'' ?_, hS'', hx.trans (by rw [e0]), fun _ _ h => h⟩
      simp [markStringish, hsh]
    | some tn =>
      have hcells : ∃ cs el fr, w''.heap[q.1]? = some (.cells cs el fr) ∧ tn = (el, cs.size) := by
        unfold World.shape? at hsh
        split at hsh
        · rename_i cs el fr hh; cases hsh; exact ⟨cs, el, fr, hh, rfl⟩
        · cases hsh
      obtain ⟨cs, el, fr, hh, rfl⟩ := hcells
      refine ⟨E'', _, w''.freeze ⟨q.1, cs.size, none⟩ 1, .refl _, rfl, hex _ ?_, hS''.freeze (hS''.ids _ _ hq).1 hh, hx.trans (by rw [e0]), fun _ _ h => h⟩
      simp [markStringish, hsh]

theorem getL_field {fa : Array Field} {f : Nat} {fl : Field} (h : getL f fa.toList = some fl) : fa[f]? = some fl := by rw [getL_eq] at h; simpa using h
theorem builtin_mov (hc : CxOK X K w0) (hS : StRel X K w0 E st w) (hO : Oks E tm) {cxr : Rec} {b : BOp} {bi : Builtin} {args : Array Operand} {tys : Array TypeId} {bs : List BO} (ho : o.op = .call ⟨.builtin bi, args, tys⟩) (hbs : cOs args.toList = some bs)
    (hb : cBuiltin X.cx.und X.cx.size X.cx.zero tys.toList bs o.type bi = some b) (he : isEff b = false) (h : (xop b X.cx cxr tm st k).holds Θ E.va R) : MovOut X K w0 Θ R E o tm b st w k := by
  have hf := hS.facts
  cases bi <;> simp only [cBuiltin] at hb
  case len =>
    obtain ⟨t, ht, hb⟩ := obind_inv hb
    obtain ⟨bx, hx, hb⟩ := obind_inv hb
    obtain ⟨d, hd, hb⟩ := obind_inv hb
    obtain ⟨n, hn, hb⟩ := obind_inv hb
    cases n with
    | none => cases hb; cases he
    | some n => cases hb; exact (cLen_out hc false ho hbs ht hx hd hn (fun h => by cases h) h hf).mov hS hO
  case cap =>
    obtain ⟨t, ht, hb⟩ := obind_inv hb
    obtain ⟨bx, hx, hb⟩ := obind_inv hb
    obtain ⟨d, hd, hb⟩ := obind_inv hb
    obtain ⟨n, hn, hb⟩ := obind_inv hb
    cases n with
    | none => cases hb
    | some n =>
      have hb : bif_ (isStrD d) none (some (BOp.cap n bx)) = some b := hb
      cases hstr : isStrD d with
      | true => rw [hstr] at hb; cases hb
      | false =>
        rw [hstr] at hb; cases hb
        exact (cLen_out hc true ho hbs ht hx hd hn (fun _ => hstr) h hf).mov hS hO
  case min =>
    obtain ⟨d, hd, hb⟩ := obind_inv hb
    obtain ⟨_, hb⟩ := bif_some hb
    cases hb
    exact (xMinmax_out (mx := false) ho hbs hO h hf).mov hS hO
  case max =>
    obtain ⟨d, hd, hb⟩ := obind_inv hb
    obtain ⟨_, hb⟩ := bif_some hb
    cases hb
    exact (xMinmax_out (mx := true) ho hbs hO h hf).mov hS hO
  case append =>
    obtain ⟨t, ht, hb⟩ := obind_inv hb
    obtain ⟨u, hu, hb⟩ := obind_inv hb
    obtain ⟨du, hdu, hb⟩ := obind_inv hb
    obtain ⟨_, hb⟩ := bif_some hb
    obtain ⟨s, hs, hb⟩ := obind_inv hb
    obtain ⟨x, hx, hb⟩ := obind_inv hb
    obtain ⟨d, hd, hb⟩ := obind_inv hb
    obtain ⟨e, he', hb⟩ := obind_inv hb
    obtain ⟨n, hn, hb⟩ := obind_inv hb
    obtain ⟨z, hz, hb⟩ := obind_inv hb
    obtain ⟨_, hb⟩ := bif_some hb
    cases hb; cases he
  case copy =>
    obtain ⟨t, ht, hb⟩ := obind_inv hb
    obtain ⟨u, hu, hb⟩ := obind_inv hb
    obtain ⟨du, hdu, hb⟩ := obind_inv hb
    obtain ⟨_, hb⟩ := bif_some hb
    obtain ⟨s, hs, hb⟩ := obind_inv hb
    obtain ⟨x, hx, hb⟩ := obind_inv hb
    obtain ⟨d, hd, hb⟩ := obind_inv hb
    obtain ⟨e, he', hb⟩ := obind_inv hb
    obtain ⟨n, hn, hb⟩ := obind_inv hb
    cases hb; cases he
  case delete =>
    obtain ⟨t, ht, hb⟩ := obind_inv hb
    obtain ⟨s, hs, hb⟩ := obind_inv hb
    obtain ⟨x, hx, hb⟩ := obind_inv hb
    obtain ⟨d, hd, hb⟩ := obind_inv hb
    cases hb; cases he
  case clear =>
    obtain ⟨t, ht, hb⟩ := obind_inv hb
    obtain ⟨s, hs, hb⟩ := obind_inv hb
    obtain ⟨d, hd, hb⟩ := obind_inv hb
    split at hb
    · cases hb; cases he
    · obtain ⟨z, hz, hb⟩ := obind_inv hb
      obtain ⟨n, hn, hb⟩ := obind_inv hb
      cases hb; cases he
    · cases hb
  all_goals cases hb
/-- All operations that leave memory as it is. -/
theorem cBuild_noload {size : Tr Nat} {zero : Tr (List AV)} {t : TypeId} {l : List (Nat × Operand)} {d : TypeDesc} {b : BOp} (h : cBuild size zero t l d = some b) : ∀ n a, b ≠ .load n a := by
  intro n a e
  subst e
  unfold cBuild at h
  split at h
  · obtain ⟨_, _, h⟩ := obind_inv h
    obtain ⟨_, _, h⟩ := obind_inv h
    cases h
  · obtain ⟨_, _, h⟩ := obind_inv h
    obtain ⟨_, _, h⟩ := obind_inv h
    obtain ⟨_, _, h⟩ := obind_inv h
    cases h
  · cases h
theorem cBslice_noload {size : Tr Nat} {zero : Tr (List AV)} {len : Nat} {l : List (Nat × Operand)} {d : TypeDesc} {b : BOp} (h : cBslice size zero len l d = some b) : ∀ n a, b ≠ .load n a := by
  intro n a e
  subst e
  unfold cBslice at h
  split at h
  · obtain ⟨_, _, h⟩ := obind_inv h
    obtain ⟨_, _, h⟩ := obind_inv h
    obtain ⟨_, _, h⟩ := obind_inv h
    obtain ⟨_, h⟩ := bif_some h
    cases h
  · cases h
theorem mov_out (hc : CxOK X K w0) (hS : StRel X K w0 E st w) (hO : Oks E tm) {cxr : Rec} {b : BOp} (hb : cOp X.cx.und X.cx.size X.cx.zero o.type o.op = some b) (he : isEff b = false) (h : (xop b X.cx cxr tm st k).holds Θ E.va R) : MovOut X K w0 Θ R E o tm b st w k := by
  have hf := hS.facts
  cases ho : o.op <;> rw [ho] at hb <;> simp only [cOp] at hb
  case move x =>
    obtain ⟨bx, hx, hb⟩ := obind_inv hb; cases hb
    exact (ValOut.now (v := ev tm bx) h hf fun E' ρ hE hR => ⟨_, hR.get (x := x) (by rw [ho]; simp [Op.operands]) hx, fun w => by simp [execOp, ho]⟩).mov hS hO
  case assign x =>
    obtain ⟨bx, hx, hb⟩ := obind_inv hb; cases hb
    exact (ValOut.now (v := ev tm bx) h hf fun E' ρ hE hR => ⟨_, hR.get (x := x) (by rw [ho]; simp [Op.operands]) hx, fun w => by simp [execOp, ho]⟩).mov hS hO
  case pick c x y =>
    obtain ⟨b1, h1, hb⟩ := obind_inv hb
    obtain ⟨b2, h2, hb⟩ := obind_inv hb
    obtain ⟨b3, h3, hb⟩ := obind_inv hb
    cases hb
    exact (xPick_out h1 h2 h3 ho hO h hf).mov hS hO
  case alloc t =>
    obtain ⟨z, hz, hb⟩ := obind_inv hb; cases hb
    exact alloc_out hc hS hz ho h
  case box t x =>
    obtain ⟨bx, hx, hb⟩ := obind_inv hb; cases hb
    exact box_out hS hO hx ho h
  case build t parts =>
    obtain ⟨d, hd, hb⟩ := obind_inv hb
    exact (cBuild_out hc hd hb h hf ho).mov hS hO (cBuild_noload hb)
  case buildSlice t n parts =>
    obtain ⟨d, hd, hb⟩ := obind_inv hb
    exact bslice_out hc hS hO hd hb ho h (cBslice_noload hb)
  case load t x =>
    obtain ⟨g, hg, hb⟩ := obind_inv hb
    obtain ⟨bx, hx, hb⟩ := obind_inv hb
    cases hb
    exact load_out hc hS hx hg ho h
  case store t x y =>
    obtain ⟨g, hg, hb⟩ := obind_inv hb
    obtain ⟨bx, hx, hb⟩ := obind_inv hb
    obtain ⟨by_, hy, hb⟩ := obind_inv hb
    cases hb; cases he
  case nilCheck x =>
    obtain ⟨bx, hx, hb⟩ := obind_inv hb; cases hb
    exact (xNilc_out hx ho h hf).mov hS hO
  case binOp op t x y yt =>
    obtain ⟨d, hd, hb⟩ := obind_inv hb
    obtain ⟨bx, hx, hb⟩ := obind_inv hb
    obtain ⟨by_, hy, hb⟩ := obind_inv hb
    cases hb
    obtain ⟨v, f, g1, g2, g3⟩ := xBin_inv hc (xo := x) (yo := y) h hf (hO.ev hx) (hO.ev hy) hd
    refine ValOut.mov ⟨v, f, g1, g2, fun E' ρ hE hR => ?_⟩ hS hO
    obtain ⟨z, hz, hrun⟩ := g3 E' _ _ hE (hR.get (x := x) (by rw [ho]; simp [Op.operands]) hx) (hR.get (x := y) (by rw [ho]; simp [Op.operands]) hy)
    refine ⟨z, hz, fun w => ?_⟩
    have := hrun w
    simp only [opRun] at this
    simp only [execOp, ho, Sem.run_bind] at this ⊢
    rw [this]; rfl
  case unOp op t x =>
    obtain ⟨bx, hx, hb⟩ := obind_inv hb; cases hb
    exact (un_out (run := Op.unary op) hx (by rw [ho]; simp [Op.operands]) (fun ρ => by simp only [execOp, ho]) (xUn_inv h hf (hO.ev hx))).mov hS hO
  case convert s d x =>
    obtain ⟨sd, hsd, hb⟩ := obind_inv hb
    obtain ⟨dd, hdd, hb⟩ := obind_inv hb
    obtain ⟨bx, hx, hb⟩ := obind_inv hb
    cases hb
    have he : (isEffC sd dd && not (Nat.beq s d)) = false := he
    cases hsm : isEffC sd dd with
    | false => exact (conv1_out hc hx hsd hdd ho hsm hO h hf).mov hS hO
    | true =>
      rw [hsm, Bool.true_and, beq_iff, Bool.not_eq_false', decide_eq_true_eq] at he
      subst he
      rw [hsd] at hdd
      cases hdd
      have h : (conv1 X.cx st k (ebOf X.cx.und sd sd) (Nat.beq s s) sd (ev tm bx)).holds Θ E.va R := h
      unfold conv1 at h
      split at h
      · cases hsm
      · cases hsm
      · rename_i e
        split at h
        · obtain ⟨h1, h⟩ := vif_inv h
          rw [beq_iff] at h1
          simp at h1
        · rename_i j off n c hev
          obtain ⟨h1, h⟩ := vif_inv h
          rw [Bool.and_eq_true] at h1
          exact mark_out hc hS hO hx hsd hev h1.1 ho h
        · exact h.elim
      · exact h.elim
  case sliceToArrayPointer t x =>
    obtain ⟨d, hd, hb⟩ := obind_inv hb
    split at hb
    · obtain ⟨bx, hx, hb⟩ := obind_inv hb; cases hb
      exact (xS2a_out hc hx hd ho h hf).mov hS hO
    · cases hb
  case makeInterface t x =>
    obtain ⟨d, hd, hb⟩ := obind_inv hb
    obtain ⟨hn, hb⟩ := bif_some hb
    obtain ⟨bx, hx, hb⟩ := obind_inv hb; cases hb
    exact (xMki_out hc hx hd hn ho h hf).mov hS hO
  case makeFunc fn a c =>
    obtain ⟨ba, ha, hb⟩ := obind_inv hb
    obtain ⟨bc, hcc, hb⟩ := obind_inv hb
    cases hb
    exact (xMkf_out ha hcc ho h hf).mov hS hO
  case makeMap t r =>
    obtain ⟨hr, hb⟩ := bif_some hb
    obtain ⟨rb, hrb, hb⟩ := obind_inv hb
    obtain ⟨d, hd, hb⟩ := obind_inv hb
    obtain ⟨p, hp, hb⟩ := obind_inv hb
    cases hb
    exact mkmap_out hc hS hd hp hr hrb ho h
  case makeSlice t l c =>
    obtain ⟨d, hd, hb⟩ := obind_inv hb
    obtain ⟨e, he', hb⟩ := obind_inv hb
    obtain ⟨n, hn, hb⟩ := obind_inv hb
    obtain ⟨z, hz, hb⟩ := obind_inv hb
    obtain ⟨bl, hl, hb⟩ := obind_inv hb
    obtain ⟨bc, hcc, hb⟩ := obind_inv hb
    obtain ⟨hpos, hb⟩ := bif_some hb
    cases hb
    have : d = .slice e := by cases d <;> cases he'; rfl
    subst this
    rw [blt_iff, decide_eq_true_eq] at hpos
    exact mksl_out hc hS hO hd hn hz hl hcc hpos ho h
  case slice t x lo hi mx =>
    obtain ⟨d, hd, hb⟩ := obind_inv hb
    obtain ⟨bx, hx, hb⟩ := obind_inv hb
    obtain ⟨bl, hl, hb⟩ := obind_inv hb
    obtain ⟨bh, hh, hb⟩ := obind_inv hb
    obtain ⟨bm, hm, hb⟩ := obind_inv hb
    obtain ⟨hmh, hb⟩ := bif_some hb
    have hmh' : mx.isSome = true → hi.isSome = true := by
      rw [isNo_some hm, isNo_some hh] at hmh
      cases mx <;> cases hi <;> simp_all
    unfold cSlice at hb
    split at hb
    · obtain ⟨s, hs, hb⟩ := obind_inv hb; cases hb
      exact (xSlS_out hc hS hO hx hl hh hm hd hs hmh' ho h).mov hS hO
    · obtain ⟨s, hs, hb⟩ := obind_inv hb; cases hb
      exact (xSlA_out hc hS hO hx hl hh hm (.inl hd) hs hmh' ho h).mov hS hO
    · obtain ⟨d2, hd2, hb⟩ := obind_inv hb
      split at hb
      · obtain ⟨s, hs, hb⟩ := obind_inv hb; cases hb
        exact (xSlA_out hc hS hO hx hl hh hm (.inr ⟨_, hd, hd2⟩) hs hmh' ho h).mov hS hO
      · cases hb
    · split at hb
      · cases hb
        have : mx = none := by
          cases mx with
          | none => rfl
          | some y => obtain ⟨_, _, e⟩ := obind_inv hm; cases e
        subst this
        exact (xSlT_out hc hS hO hx hl hh hd ho h).mov hS hO
      · cases hb
    · cases hb
  case fieldAddr s x f =>
    obtain ⟨d, hd, hb⟩ := obind_inv hb
    obtain ⟨fs, hfs, hb⟩ := obind_inv hb
    obtain ⟨fl, hfl, hb⟩ := obind_inv hb
    obtain ⟨n, hn, hb⟩ := obind_inv hb
    obtain ⟨bx, hx, hb⟩ := obind_inv hb
    obtain ⟨fa, rfl, rfl⟩ := fieldsOf_inv hfs
    cases n with
    | zero => cases hb
    | succ n =>
      cases hb
      exact (xFadr_out hc hx hd (getL_field hfl) hn ho h hf).mov hS hO
  case field s x f =>
    obtain ⟨d, hd, hb⟩ := obind_inv hb
    obtain ⟨fs, hfs, hb⟩ := obind_inv hb
    obtain ⟨fl, hfl, hb⟩ := obind_inv hb
    obtain ⟨g, hg, hb⟩ := obind_inv hb
    obtain ⟨bx, hx, hb⟩ := obind_inv hb
    cases hb
    obtain ⟨fa, rfl, rfl⟩ := fieldsOf_inv hfs
    exact (xFld_out hc hx hd (getL_field hfl) hg ho h hf).mov hS hO
  case indexAddr t x i =>
    obtain ⟨d, hd, hb⟩ := obind_inv hb
    obtain ⟨bx, hx, hb⟩ := obind_inv hb
    obtain ⟨bi, hi, hb⟩ := obind_inv hb
    unfold cIadr at hb
    split at hb
    · obtain ⟨s, hs, hb⟩ := obind_inv hb; cases hb
      exact (xIadrA_out hc hO hx hi hd hs ho h hf).mov hS hO
    · obtain ⟨s, hs, hb⟩ := obind_inv hb; cases hb
      exact (xIadrS_out hc hO hx hi hd hs ho h hf).mov hS hO
    · cases hb
  case index t x i =>
    obtain ⟨d, hd, hb⟩ := obind_inv hb
    obtain ⟨bx, hx, hb⟩ := obind_inv hb
    obtain ⟨bi, hi, hb⟩ := obind_inv hb
    unfold cIdx at hb
    split at hb
    · obtain ⟨s, hs, hb⟩ := obind_inv hb
      obtain ⟨g, hg, hb⟩ := obind_inv hb
      cases hb
      exact (xIdxA_out hc hO hx hi hd hs hg ho h hf).mov hS hO
    · cases hb
      exact (xIdxS_out hc hO hx hi hd ho h hf).mov hS hO
    · cases hb
  case typeAssert x xt t ok =>
    obtain ⟨d, hd, hb⟩ := obind_inv hb
    obtain ⟨hn, hb⟩ := bif_some hb
    obtain ⟨z, hz, hb⟩ := obind_inv hb
    obtain ⟨bx, hx, hb⟩ := obind_inv hb
    cases hb
    exact (xTass_out hc hx hd hn hz ho h hf).mov hS hO
  case extract x i =>
    obtain ⟨bx, hx, hb⟩ := obind_inv hb; cases hb
    exact (xExt_out hx ho h hf).mov hS hO
  case call c =>
    obtain ⟨cl, args, tys⟩ := c
    obtain ⟨bs, hbs, hb⟩ := obind_inv hb
    cases cl with
    | builtin bi => exact builtin_mov hc hS hO ho hbs hb he h
    | value f =>
      cases f with
      | func f => cases hb; cases he
      | tmp x =>
        obtain ⟨bx, hx, hb⟩ := obind_inv (show obind (cO (.tmp x)) (fun x => some (BOp.callv x bs)) = some b from hb)
        cases hb; cases he
      | const x =>
        obtain ⟨bx, hx, hb⟩ := obind_inv (show obind (cO (.const x)) (fun x => some (BOp.callv x bs)) = some b from hb)
        cases hb; cases he
      | «global» x =>
        obtain ⟨bx, hx, hb⟩ := obind_inv (show obind (cO (.global x)) (fun x => some (BOp.callv x bs)) = some b from hb)
        cases hb; cases he
    | invoke r n => cases hb
  case lookup t m k ok =>
    obtain ⟨_, _, hb⟩ := obind_inv hb
    obtain ⟨_, _, hb⟩ := obind_inv hb
    obtain ⟨_, _, hb⟩ := obind_inv hb
    obtain ⟨_, _, hb⟩ := obind_inv hb
    cases hb; cases he
  case mapUpdate t m k x =>
    obtain ⟨_, _, hb⟩ := obind_inv hb
    obtain ⟨_, _, hb⟩ := obind_inv hb
    obtain ⟨_, _, hb⟩ := obind_inv hb
    obtain ⟨_, _, hb⟩ := obind_inv hb
    cases hb; cases he
  case insert t m k x =>
    obtain ⟨_, _, hb⟩ := obind_inv hb
    obtain ⟨_, _, hb⟩ := obind_inv hb
    obtain ⟨_, _, hb⟩ := obind_inv hb
    obtain ⟨_, _, hb⟩ := obind_inv hb
    cases hb; cases he
  case mapEntry t m k =>
    obtain ⟨_, _, hb⟩ := obind_inv hb
    obtain ⟨_, _, hb⟩ := obind_inv hb
    obtain ⟨_, _, hb⟩ := obind_inv hb
    obtain ⟨_, _, hb⟩ := obind_inv hb
    cases hb; cases he
  case entryStore t m x y =>
    obtain ⟨_, _, hb⟩ := obind_inv hb
    obtain ⟨_, _, hb⟩ := obind_inv hb
    obtain ⟨_, _, hb⟩ := obind_inv hb
    cases hb; cases he
  case range t x =>
    obtain ⟨_, _, hb⟩ := obind_inv hb
    obtain ⟨_, _, hb⟩ := obind_inv hb
    split at hb
    · cases hb; cases he
    · cases hb; cases he
    · cases hb
  case next x s =>
    obtain ⟨_, _, hb⟩ := obind_inv hb
    cases s <;> (cases hb; cases he)
  case entry x =>
    obtain ⟨_, _, hb⟩ := obind_inv hb
    cases hb; cases he
  all_goals cases hb
end
end Go.Sy
/-! Operations that change memory: what is asked of each. -/
namespace Go.Sy

/-- Activations of functions; of a round. -/
def FW : Option Nat → Fence
  | none => Fence.wide
  | some l => Fence.wide.inRound l
theorem FW_fn (r : Option Nat) (f : FuncId) : (FW r).fn f := by cases r <;> trivial
theorem FW_round (r : Option Nat) : (FW r).round = r := by cases r <;> rfl
theorem FW_depth (r : Option Nat) : (FW r).depth = none := by cases r <;> rfl
theorem FW_room (r : Option Nat) (n : Nat) : (FW r).room n := fun d h => by rw [FW_depth] at h; cases h
theorem FW_in (r : Option Nat) (l : Nat) : (FW r).inRound l = FW (some l) := by cases r <;> rfl
theorem FW_calls {r r' : Option Nat} {n : Nat} {P : Program} {f : FuncId} {args : Array Value} {w : World} {G : Ending → World → Prop} (h : CallsIn (FW r) n P f args w G) : CallsIn (FW r') n P f args w G := by
  cases r <;> cases r' <;> exact h
theorem FW_rounds {r r' : Option Nat} {n : Nat} {P : Program} {l : Nat} {f : FuncId} {tmps : Array Value} {x y : Code} {w : World} {G : Ending → World → Prop} (h : RoundIn (FW r) n P l f tmps x y w G) : RoundIn (FW r') n P l f tmps x y w G := by
  cases r <;> cases r' <;> exact h

def retOnly (G : Value → World → Prop) : Ending → World → Prop
  | .returned v, w => G v w
  | _, _ => False
/-- What an operation comes to. -/
def OpRes (P : Program) (G : Value → World → Prop) : Result Next → Prop
  | .ok (.value v) w' => G v w'
  | .ok .skip w' => G undef w'
  | .ok (.enter f args) w' => CallsIn (FW none) 0 P f args w' (retOnly G)
  | .ok (.round l f tmps x y) w' => RoundIn (FW none) 0 P l f tmps x y w' (retOnly G)
  | _ => False
theorem retOnly_mono {G G' : Value → World → Prop} (h : ∀ v w, G v w → G' v w) : ∀ e w, retOnly G e w → retOnly G' e w := by
  intro e w he
  cases e <;> first | exact h _ _ he | exact he
theorem OpRes.mono {P : Program} {G G' : Value → World → Prop} (h : ∀ v w, G v w → G' v w) {r : Result Next} (hr : OpRes P G r) : OpRes P G' r := by
  unfold OpRes at *
  split at hr
  · exact h _ _ hr
  · exact h _ _ hr
  · exact CallsIn.mono hr (retOnly_mono h)
  · exact RoundIn.mono hr (retOnly_mono h)
  · exact hr.elim
def notDefer : Op → Bool
  | .defer _ => false
  | _ => true
theorem OpRes.wpIn {P : Program} {G : Value → World → Prop} {r : Option Nat} {o : Oper} {a : Act} {w : World} {next : Act → World → Prop} {Q : Exit → Act → World → Prop} (hn : notDefer o.op = true) (h : OpRes P G ((execOp a.eval o).run P w)) (hq : ∀ v w', G v w' → next (a.put o.dst v) w') :
    o.wpIn (FW r) 0 P a w next Q := by
  have hsem : o.semAt (FW r).round a.eval = execOp a.eval o := Oper.semAt_eq _ _ _ (fun c hc => by rw [hc] at hn; cases hn)
  refine ⟨fun f _ => FW_fn r f, ?_⟩
  rw [hsem]
  generalize (execOp a.eval o).run P w = res at *
  unfold OpRes at h
  split at h
  · exact hq _ _ h
  · exact hq _ _ h
  · refine ⟨fun hd => (by rw [FW_depth] at hd; cases hd), FW_calls (CallsIn.mono h fun e w' he => ?_)⟩
    cases e <;> first | exact hq _ _ he | exact he.elim
  · refine ⟨fun hd => (by rw [FW_depth] at hd; cases hd), FW_rounds (RoundIn.mono h fun e w' he => ?_)⟩
    cases e <;> first | exact hq _ _ he | exact he.elim
  · exact h.elim

section
variable {X : Tabs} {K : Nat → Prop} {w0 : World} {E : Env} {st : St} {w : World} {Θ : Pred} {R : List Back} {tm : Tm} {k : Kt} {o : Oper}

/-- An outcome: a value and a world from which the rest goes on. -/
def Out (X : Tabs) (K : Nat → Prop) (w0 : World) (Θ : Pred) (R : List Back) (E : Env) (st : St) (k : Kt) (y : Value) (w' : World) : Prop :=
  ∃ v st' E' R', R <+: R' ∧ (k v st').holds Θ E'.va R' ∧ E.Le E' ∧ StRel X K w0 E' st' w' ∧ HP E E' st st' ∧ v.den E' = some y
theorem Out.now {v : AV} {y : Value} (h : (k v st).holds Θ E.va R) (hS : StRel X K w0 E st w) (hv : v.den E = some y) : Out X K w0 Θ R E st k y w :=
  ⟨v, st, E, R, List.prefix_rfl, h, .refl E, hS, .refl E st, hv⟩
def EffOut (X : Tabs) (K : Nat → Prop) (w0 : World) (Θ : Pred) (R : List Back) (E : Env) (o : Oper) (tm : Tm) (st : St) (w : World) (k : Kt) : Prop :=
  ∀ ρ, Rd E tm ρ o.op.operands.toList → OpRes X.P (Out X K w0 Θ R E st k) ((execOp ρ o).run X.P w)
theorem MovOut.eff {bo : BOp} (h : MovOut X K w0 Θ R E o tm bo st w k) : EffOut X K w0 Θ R E o tm st w k := by
  obtain ⟨v, st', E', h1, h2, h3, h4, h5, h6, h7, hld, h8⟩ := h
  intro ρ hR
  have hR' : Rd E' tm ρ o.op.operands.toList := fun x hx b hb => den_mono h2 _ (hR x hx b hb)
  obtain ⟨E3, y, w3, g1, g2, g3, g4, g5, g6⟩ := h8 E' st' w ρ (.refl E') (fun k hk hk' => ⟨h7 k hk hk', rfl, rfl⟩) h3 hR' hld
  rw [g3]
  refine ⟨v, st', E3, R, List.prefix_rfl, by rw [g2]; exact h1, h2.trans g1, g4, fun j hj => ?_, g5⟩
  obtain ⟨a, b, c, d⟩ := h4 j hj
  exact ⟨g6 j (.inl (List.getElem?_eq_some_iff.1 hj).1) a, b, c, d⟩
end
end Go.Sy
/-! Stores, append, copy, texts. -/
namespace Go.Sy
section
variable {X : Tabs} {K : Nat → Prop} {w0 : World} {E : Env} {st : St} {w : World} {Θ : Pred} {R : List Back} {tm : Tm} {k : Kt} {o : Oper}

theorem store_out (hc : CxOK X K w0) (hS : StRel X K w0 E st w) {t : TypeId} {a x : Operand} {n : Nat} {ba bx : BO} (hn : X.cx.size.get t = some n) (ha : cO a = some ba) (hx : cO x = some bx) (ho : o.op = .store t a x)
    (h : (xStore n (ev tm bx) st k (ev tm ba)).holds Θ E.va R) : EffOut X K w0 Θ R E o tm st w k := by
  intro ρ hR
  obtain ⟨ad, had, h⟩ := vbind_inv h
  have h1 := hR.get (x := a) (by rw [ho]; simp [Op.operands]) ha
  have h2 := hR.get (x := x) (by rw [ho]; simp [Op.operands]) hx
  rw [asPtr_inv had] at h1
  obtain ⟨p, hp, e1⟩ := den_ptr h1
  obtain ⟨st', w', g1, g2, g3, g4⟩ := storeAt_sound hc hS hn h h2 hp
  have hrun : (execOp ρ o).run X.P w = .ok .skip w' := by simp [execOp, ho, e1, Instr.storeAt, Instr.sureAddr, g2]
  rw [hrun]
  exact ⟨_, st', E, R, List.prefix_rfl, g1, .refl E, g3, g4, rfl⟩

/-- What operands of a builtin are. -/
theorem barg {b : Builtin} {args : Array Operand} {tys : Array TypeId} {bs : List BO} (ho : o.op = .call ⟨.builtin b, args, tys⟩) (hb : cOs args.toList = some bs) {ρ : Operand → Value} (hR : Rd E tm ρ o.op.operands.toList) {i : Nat} {bx : BO} (hx : getL i bs = some bx) :
    ∃ y, (ev tm bx).den E = some y ∧ (args.map ρ)[i]? = some y := by
  obtain ⟨x, hx1, hx2⟩ := cOs_get hb (by rw [getL_eq] at hx; exact hx)
  refine ⟨ρ x, hR.get (x := x) ?_ hx2, ?_⟩
  · rw [ops_call ho]; exact List.mem_of_getElem? hx1
  · have : args[i]? = some x := by simpa using hx1
    simp [this]

theorem lenOf_sound {x : AV} {m : Nat} (h : lenOf x = some m) {y : Value} (hy : x.den E = some y) (w : World) : (Builtin.lenOf y).run X.P w = .ok m w := by
  unfold lenOf at h
  split at h
  · cases h
    obtain ⟨ad, cp, rfl, _⟩ := den_slice' hy
    rfl
  · cases h
    obtain ⟨_, _, _, _, _, rfl⟩ := den_sl0 hy
    rfl
  · cases h
    obtain ⟨h1, _, rfl⟩ := den_str hy
    show Result.ok _ _ = _
    rw [bytesOf_size, ← h1]
  · cases h
theorem denL_bytes : ∀ {l : List Nat}, (∀ c ∈ l, c < 256) → denL E (byteAVs l) = some (l.map fun c => .int .u8 (c : Int))
  | [], _ => rfl
  | c :: l, h => by
    have hc := h c (by simp)
    refine denL_cons.2 ⟨.int .u8 (c : Int), _, ?_, denL_bytes fun d hd => h d (List.mem_cons_of_mem _ hd), rfl⟩
    rw [den_int_of (by simpa [modOf] using hc), sgn_nat .u8 (by simpa [halfOf] using hc)]
theorem bytes_map {l : List Nat} (h : ∀ c ∈ l, c < 256) : (bytesOf l).data.map (fun b => Value.int .u8 (b.toNat : Int)) = (l.map fun (c : Nat) => Value.int .u8 (c : Int)).toArray := by
  apply Array.ext'
  simp only [bytesOf, List.map_toArray, List.map_map]
  refine List.map_congr_left fun c hc => ?_
  simp only [Function.comp_apply]
  rw [toU8 (h c hc)]
/-- The cells that are handed over. -/
theorem srcCells_sound (hc : CxOK X K w0) (hS : StRel X K w0 E st w) {es n : Nat} {x : AV} {l : List AV} (h : srcCells X.cx st es n x = some l) {y : Value} (hy : x.den E = some y) {m : Nat} (hm : lenOf x = some m) (hle : n ≤ m) :
    ∃ xs, denL E l = some xs ∧ xs.length = n * es ∧ (Builtin.firstCells es n y).run X.P w = .ok xs.toArray w ∧ ∀ ad p c, y = .slice (some ad) p c → 0 < p → ∀ (j : Nat) (z : Value), xs[j]? = some z → w.cell? (ad.add j) = some z := by
  unfold srcCells at h
  split at h
  · rename_i p _ _
    rw [natMul] at h
    rcases den_slice_inv hy with ⟨e1, _⟩ | ⟨q, ad, cp, e1, had, _, _, e0⟩
    · cases e1
    · cases e1; subst e0
      obtain ⟨xs, h1, h2, h3, h4⟩ := cells_sound hc hS h had
      exact ⟨xs, h1, h2, by simpa [Builtin.firstCells] using h3, fun ad' p' c' e _ => by cases e; exact h4⟩
  · cases h
    rcases den_slice_inv hy with ⟨_, e2, _, e0⟩ | ⟨q, ad, cp, e1, _⟩
    · subst e0
      cases hm
      have : n = 0 := by omega
      subst this
      exact ⟨[], rfl, by simp, by simp [Builtin.firstCells], fun _ _ _ e => by cases e⟩
    · cases e1
  · cases h
    cases hm
    have : n = 0 := by omega
    subst this
    obtain ⟨x, c, _, _, _, rfl⟩ := den_sl0 hy
    refine ⟨[], rfl, by simp, ?_, fun _ _ _ e hp => by cases e; exact absurd hp (Nat.lt_irrefl _)⟩
    simp only [Builtin.firstCells, Nat.zero_mul]
    exact run_loadCells_list (P := X.P) _ _ [] (fun i x hx => by simp at hx)
  · rename_i s
    obtain ⟨hes, h⟩ := bif_some h
    rw [beq_iff, decide_eq_true_eq] at hes
    subst hes
    cases h
    obtain ⟨h1, h2, rfl⟩ := den_str hy
    cases hm
    rw [takeL_eq]
    have h3 : ∀ c ∈ s.take n, c < 256 := fun c hc => h2 c (List.mem_of_mem_take hc)
    refine ⟨_, denL_bytes h3, by simp; omega, ?_, fun _ _ _ e => by cases e⟩
    have e1 : (bytesOf s).extract 0 n = bytesOf (s.take n) := by
      have := bytesOf_extract s 0 n
      simpa using this
    simp only [Builtin.firstCells]
    rw [e1, bytes_map h3]
    rfl
  · cases h


theorem clearS_out (hc : CxOK X K w0) (hS : StRel X K w0 E st w) {args : Array Operand} {tys : Array TypeId} {bs : List BO} {t e : TypeId} {n : Nat} {z : List AV} {bx : BO} (ho : o.op = .call ⟨.builtin .clear, args, tys⟩) (hb : cOs args.toList = some bs) (ht : getL 0 tys.toList = some t) (hx : getL 0 bs = some bx)
    (hd : X.cx.und.get t = some (.slice e)) (hz : X.cx.zero.get e = some z) (_hn : X.cx.size.get e = some n) (h : (xClearS n z st k (ev tm bx)).holds Θ E.va R) : EffOut X K w0 Θ R E o tm st w k := by
  intro ρ hR
  obtain ⟨y, hy, hy2⟩ := barg ho hb hR hx
  have ht' := tys_get ht
  have hu := hc.und t _ hd
  obtain ⟨ie, zv, h1, h2, h3, h4, h5, _⟩ := hc.zero e z hz
  have hzl := denL_length (h5 E)
  have go : ∀ w', (Builtin.clear_ tys o.type (args.map ρ)).run X.P w = .ok (.tuple #[]) w' → (execOp ρ o).run X.P w = .ok (.value (.tuple #[])) w' := by
    intro w' hw'
    simp [execOp, ho, resolve, invoke, Go.builtin, hw']
  unfold xClearS at h
  split at h
  · rename_i hev
    rw [hev] at hy
    rcases den_slice_inv hy with ⟨_, _, _, e0⟩ | ⟨q, ad, cp, e1, _⟩
    · subst e0
      rw [go w (by simp [Builtin.clear_, ht', hy2, run_underlying hu])]
      exact .now h hS rfl
    · cases e1
  · rename_i hev
    rw [hev] at hy
    obtain ⟨x, c, _, _, _, rfl⟩ := den_sl0 hy
    rw [go w (by simp [Builtin.clear_, ht', hy2, run_underlying hu])]
    exact .now h hS rfl
  · rename_i b off m c hev
    rw [hev] at hy
    rcases den_slice_inv hy with ⟨e1, _⟩ | ⟨q, ad, cp, e1, had, _, _, rfl⟩
    · cases e1
    · cases e1
      have hrep := denL_rep (h5 E) m
      rw [rep_made zv.cells.toList m] at hrep
      obtain ⟨st', w', g1, g2, g3, g4⟩ := storeCells_sound hS h hrep had
      have hcl : (Builtin.clear_ tys o.type (args.map ρ)).run X.P w = .ok (.tuple #[]) w' := by
        cases m with
        | zero =>
          have hw : w' = w := by
            simp only [Nat.zero_mul] at g2
            have : (madeCells zv.cells.toList.toArray 0).toList = [] := by simp [madeCells]
            rw [this] at g2
            simpa [Go.storeCells] using g2.symm
          rw [hw]
          simp [Builtin.clear_, ht', hy2, run_underlying hu]
        | succ m =>
          have : (Builtin.zeroCells zv.cells (m + 1)).toList = (madeCells zv.cells.toList.toArray ((m + 1) * zv.cells.toList.length)).toList := by simp [Builtin.zeroCells, madeCells]
          rw [← this] at g2
          simp [Builtin.clear_, ht', hy2, run_underlying hu, zeroValue, typeInfo, h1, h2, g2, program, Sem.run]
      rw [go w' hcl]
      exact ⟨_, st', E, R, List.prefix_rfl, g1, .refl E, g3, g4, rfl⟩
  · exact h.elim

theorem copy_out (hc : CxOK X K w0) (hS : StRel X K w0 E st w) {args : Array Operand} {tys : Array TypeId} {bs : List BO} {t e : TypeId} {n : Nat} {bd bx : BO} (ho : o.op = .call ⟨.builtin .copy, args, tys⟩) (hb : cOs args.toList = some bs) (ht : getL 0 tys.toList = some t)
    (hd0 : getL 0 bs = some bd) (hx : getL 1 bs = some bx) (hd : X.cx.und.get t = some (.slice e)) (hn : X.cx.size.get e = some n)
    (h : (xCopy X.cx n (ev tm bx) st k (ev tm bd)).holds Θ E.va R) : EffOut X K w0 Θ R E o tm st w k := by
  intro ρ hR
  obtain ⟨y, hy, hy2⟩ := barg ho hb hR hx
  obtain ⟨yd, hyd, hyd2⟩ := barg ho hb hR hd0
  have ht' := tys_get ht
  have hu := hc.und t _ hd
  have go : ∀ v w', (Builtin.copy_ tys o.type (args.map ρ)).run X.P w = .ok v w' → (execOp ρ o).run X.P w = .ok (.value v) w' := by
    intro v w' hw'
    simp [execOp, ho, resolve, invoke, Go.builtin, hw']
  unfold xCopy at h
  split at h
  · rename_i b off m c hev
    rw [hev] at hyd
    obtain ⟨ml, hml, h⟩ := vbind_inv h
    rw [natK_eq] at h
    obtain ⟨l, hl, h⟩ := vbind_inv h
    rcases den_slice_inv hyd with ⟨e1, _⟩ | ⟨q, ad, cp, e1, had, _, _, rfl⟩
    · cases e1
    · cases e1
      rw [nmin_eq] at hl h
      obtain ⟨xs, h1, h2, h3, _⟩ := srcCells_sound hc hS hl hy hml (by omega)
      obtain ⟨st', w', g1, g2, g3, g4⟩ := storeCells_sound hS h h1 had
      obtain ⟨g5, g6⟩ := lenK_inv g1
      have hlen := lenOf_sound (X := X) hml hy w
      have e1 : Nat.min ml m = min ml m := rfl
      have hrun : (Builtin.copy_ tys o.type (args.map ρ)).run X.P w = .ok (goInt ((min ml m : Nat) : Int)) w' := by
        simp [Builtin.copy_, ht', hyd2, hy2, run_underlying hu, hlen, hc.size' hn, h3, g2, e1]
      rw [go _ w' hrun]
      exact ⟨_, st', E, R, List.prefix_rfl, g6, .refl E, g3, g4, den_i64 g5⟩
  · rename_i hev
    rw [hev] at hyd
    obtain ⟨ml, hml, h⟩ := vbind_inv h
    rcases den_slice_inv hyd with ⟨_, e2, _, rfl⟩ | ⟨q, ad, cp, e1, _⟩
    · have hlen := lenOf_sound (X := X) hml hy w
      have hf : ∃ cs, (Builtin.firstCells n 0 y).run X.P w = .ok cs w := by
        cases y <;> simp [Builtin.lenOf] at hlen
        · exact ⟨_, rfl⟩
        · rename_i a _ _
          cases a with
          | none => exact ⟨_, rfl⟩
          | some a =>
            refine ⟨#[], ?_⟩
            simp only [Builtin.firstCells, Nat.zero_mul]
            exact run_loadCells_list (P := X.P) _ _ [] (fun i x hx => by simp at hx)
      obtain ⟨cs, hcs⟩ := hf
      rw [go (goInt 0) w (by simp [Builtin.copy_, ht', hyd2, hy2, run_underlying hu, hlen, hc.size' hn, hcs])]
      exact .now h hS (den_i64 (by decide))
    · cases e1
  · exact h.elim
end
end Go.Sy
/-! Append. -/
namespace Go.Sy
section
variable {X : Tabs} {K : Nat → Prop} {w0 : World} {E : Env} {st : St} {w : World} {Θ : Pred} {R : List Back} {tm : Tm} {k : Kt} {o : Oper}

theorem growBy_le (n : Nat) : ∀ (f c : Nat), c ≤ n + (n + 768) / 4 → Builtin.growBy n f c ≤ n + (n + 768) / 4
  | 0, c, h => h
  | f + 1, c, h => by
    simp only [Builtin.growBy]
    split
    · exact h
    · exact growBy_le n f _ (by omega)
theorem nextcap_le {need c : Nat} (h : c < need) (hn : need ≤ 16777216) : Builtin.nextslicecap need c ≤ 33554432 := by
  unfold Builtin.nextslicecap
  split
  · omega
  · split
    · omega
    · have := growBy_le need 4 c (by omega); omega

/-- The run of an append. -/
theorem run_append (hc : CxOK X K w0) {t u e : TypeId} {du : TypeDesc} {sz n m cap : Nat} {z : List AV} {ad : Option Addr} {ty : TypeId} {yx : Value} {old new : List Value}
    (ht : X.P.underlying t = some (.slice e)) (hu : X.P.underlying u = some du) (hsrc : srcD du = true) (hz : X.cx.zero.get e = some z) (hs : X.cx.size.get e = some sz) (hneed : n + m ≤ 16777216) (hlen : ∀ w, (Builtin.lenOf yx).run X.P w = .ok m w)
    (hnew : (Builtin.firstCells sz m yx).run X.P w = .ok new.toArray w) (hold : (Builtin.firstCells sz n (.slice ad n cap)).run X.P w.drew = .ok old.toArray w.drew)
    (hnew' : (Builtin.firstCells sz m yx).run X.P w.drew = .ok new.toArray w.drew) :
    (n + m ≤ cap → ∀ w', (match ad with | some p => (Go.storeCells (p.add (n * sz)) new).run X.P w = .ok () w' | none => w' = w) →
      (Builtin.append_ #[t, u] ty #[.slice ad n cap, yx]).run X.P w = .ok (.slice ad (n + m) cap) w') ∧
    (¬ n + m ≤ cap → ∃ c rest, n + m ≤ c ∧ rest.size = (c - (n + m)) * sz ∧
      (Builtin.append_ #[t, u] ty #[.slice ad n cap, yx]).run X.P w = .ok (.slice (some ⟨w.heap.size, 0, none⟩) (n + m) c) (w.drew.alloc (.cells ((old ++ new).toArray ++ rest) e))) := by
  obtain ⟨ie, zv, h1, h2, h3, h4, h5, _⟩ := hc.zero e z hz
  obtain ⟨ie', hie, hsz⟩ := hc.size e sz hs
  rw [h1] at hie; cases hie
  have hzl := denL_length (h5 ⟨[], [], [], [], []⟩)
  constructor
  · intro hle w' hw'
    cases ad with
    | none =>
      subst hw'
      cases du <;> first | (cases hsrc; done) | simp [Builtin.append_, run_underlying ht, run_underlying hu, hc.size' hs, hlen, hle, hnew]
    | some p =>
      cases du <;> first | (cases hsrc; done) | simp [Builtin.append_, run_underlying ht, run_underlying hu, hc.size' hs, hlen, hle, hnew, hw']
  · intro hgt
    have hcap : cap < n + m := by omega
    have hnc := nextcap_le hcap hneed
    have hb : ¬ (Builtin.nextslicecap (n + m) cap * ie.bytes > 2 ^ 48) := by
      have : Builtin.nextslicecap (n + m) cap * ie.bytes ≤ 33554432 * 1048576 := Nat.mul_le_mul hnc h4
      omega
    have hb' : ¬ (281474976710656 < Builtin.nextslicecap (n + m) cap * ie.bytes) := by simpa using hb
    have hmax' : ¬ (9223372036854775807 < (n : Int) + (m : Int)) := by omega
    have hf : (Question.appendCap (n + m) cap e).forced = false := rfl
    have happ : ∀ Z : Array Value, old.toArray ++ (new.toArray ++ Z) = (old ++ new).toArray ++ Z := fun Z => by apply Array.ext'; simp
    refine ⟨(Question.appendCap (n + m) cap e).cut (w.tape w.drawn (.appendCap (n + m) cap e)), Builtin.zeroCells zv.cells ((Question.appendCap (n + m) cap e).cut (w.tape w.drawn (.appendCap (n + m) cap e)) - (n + m)), ?_, ?_, ?_⟩
    · simp only [Question.cut]; omega
    · have : zv.cells.size = sz := by rw [← hsz, h3, ← hzl]; simp
      simp [Builtin.zeroCells, this]
    · cases du <;> first | (cases hsrc; done) | simp [Builtin.append_, run_underlying ht, run_underlying hu, hc.size' hs, hlen, hgt, typeInfo, h1, hb', hmax', hf, hold, hnew', zeroValue, h2, newRow, happ]
theorem cutTr_get (n : Nat) : ∀ (t : Tr AV) (s j : Nat), (cutTr t n s).get j = if s ≤ j ∧ j < s + n then none else t.get j := by
  induction n with
  | zero => intro t s j; show t.get j = _; rw [if_neg (by omega)]
  | succ n ih =>
    intro t s j
    show (cutTr (t.set s none) n (Nat.succ s)).get j = _
    rw [ih, Tr.get_set]
    have e1 : Nat.succ s = s + 1 := rfl
    rw [e1]
    by_cases c : s + 1 ≤ j ∧ j < s + 1 + n
    · rw [if_pos c, if_pos (by omega)]
    · rw [if_neg c]
      by_cases c2 : s = j
      · rw [if_pos c2, if_pos (by omega)]
      · rw [if_neg c2, if_neg (by omega)]

/-- The new block and the new number. -/
def Env.both (E : Env) (p : Nat × Nat) (c : Nat) : Env := { E with m := E.m ++ [some p], caps := E.caps ++ [c] }
theorem Env.le_both (E : Env) (p : Nat × Nat) (c : Nat) : E.Le (E.both p c) := (E.le_push (some p)).trans ((E.push (some p)).le_cap c)
theorem both_n (hS : StRel X K w0 E st w) (p : Nat × Nat) (c : Nat) : (E.both p c).m[st.n]? = some (some p) := by rw [← hS.n_eq]; exact push_new E (some p)
theorem both_c (hS : StRel X K w0 E st w) (p : Nat × Nat) (c : Nat) : (E.both p c).caps[st.nc]? = some c := by rw [← hS.c_eq]; exact cap_new E c
theorem both_old (E : Env) (p : Nat × Nat) (c : Nat) {k : Nat} {q : Option (Nat × Nat)} (h : (E.both p c).m[k]? = some q) : (k < E.m.length ∧ E.m[k]? = some q) ∨ (k = E.m.length ∧ q = some p) := push_get E (some p) k q h
theorem both_keep (E : Env) (p : Nat × Nat) (c : Nat) {k : Nat} {q : Option (Nat × Nat)} (h : E.m[k]? = some q) : (E.both p c).m[k]? = some q := by
  show (E.push (some p)).m[k]? = _
  rw [push_old E (some p) (List.getElem?_eq_some_iff.1 h).1]; exact h

/-- A new one of some places: they are known, there is room for more. -/
theorem StRel.newGrown (hS : StRel X K w0 E st w) {cs : List AV} {xs : List Value} (hx : denL E cs = some xs) {c es : Nat} {rest : Array Value} {el : TypeId} (hroom : c * es ≤ xs.length + rest.size) (hin : xs.length ≤ c * es) (w1 : World) (hw : w1.heap = w.heap) (hS1 : StRel X K w0 E st w1) :
    StRel X K w0 (E.both (w.heap.size, 0) c) ((⟨st.n, Nat.succ st.nc, st.heap, st.live, st.x⟩ : St).blk ⟨lenL cs, (layB cs).1, (layB cs).2.1, (layB cs).2.2, st.n, Nat.succ st.nc, es⟩) (w1.alloc (.cells (xs.toArray ++ rest) el)) ∧
      HP E (E.both (w.heap.size, 0) c) st ((⟨st.n, Nat.succ st.nc, st.heap, st.live, st.x⟩ : St).blk ⟨lenL cs, (layB cs).1, (layB cs).2.1, (layB cs).2.2, st.n, Nat.succ st.nc, es⟩) := by
  have h1 := hS1.newCap c
  have hsz : w1.heap.size = w.heap.size := by rw [hw]
  have hE : (E.cap c).push (some (w.heap.size, 0)) = E.both (w.heap.size, 0) c := rfl
  have h2 := h1.newCells (b := ⟨lenL cs, (layB cs).1, (layB cs).2.1, (layB cs).2.2, st.n, Nat.succ st.nc, es⟩) (p := some (w.heap.size, 0)) (w' := w1.alloc (.cells (xs.toArray ++ rest) el)) rfl
    (.inr ⟨_, el, by rw [hsz], rfl, blkRel_list (denL_mono (E.le_both (w.heap.size, 0) c) _ hx) (fun i y hy => by
      have := (List.getElem?_eq_some_iff.1 hy).1
      rw [Array.getElem?_append_left (by simpa using this)]; simpa using hy) (fun i hi => by
      have hi : Nat.succ st.nc = i + 1 := hi
      have : i = st.nc := by omega
      subst this
      refine ⟨c, both_c hS _ _, ?_, hin⟩
      simp only [Array.size_append, List.size_toArray]; exact hroom)⟩)
  rw [hE] at h2
  refine ⟨h2, ?_⟩
  have h3 := (hp_cap E c st).trans (hp_blk h1 ⟨lenL cs, (layB cs).1, (layB cs).2.1, (layB cs).2.2, st.n, Nat.succ st.nc, es⟩ (some (w.heap.size, 0)))
  rw [hE] at h3
  exact h3
theorem cap_arith (n m c sz : Nat) (h : n + m ≤ c) : c * sz ≤ n * sz + m * sz + (c - (n + m)) * sz := by
  rw [← Nat.add_mul, ← Nat.add_mul]
  exact Nat.mul_le_mul_right _ (by omega)
theorem slice_u_den (hS : StRel X K w0 E st w) {p : Nat × Nat} {c len : Nat} (h : len ≤ c) : (AV.slice (some ⟨.r st.n, 0⟩) len (.u st.nc 0)).den (E.both p c) = some (.slice (some ⟨p.1, p.2, none⟩) len c) := by
  have h1 : aden (E.both p c) ⟨.r st.n, 0⟩ = some ⟨p.1, 0 + p.2, none⟩ := aden_r_of (both_n hS p c)
  have h2 : cden (E.both p c) (.u st.nc 0) = some c := by simp [cden, both_c hS p c]
  simp only [AV.den, h1, h2]
  rw [if_pos h, Nat.zero_add]
end
end Go.Sy
/-! Append where it isn't known whether there is room. -/
namespace Go.Sy
section
variable {X : Tabs} {K : Nat → Prop} {w0 : World} {E : Env} {st : St} {w : World} {Θ : Pred} {R : List Back} {tm : Tm} {k : Kt} {o : Oper}

/-- A block that may be one with an elder one. -/
theorem shared (hS : StRel X K w0 E st w) {k : Nat} {b : Blk} (hk : st.heap.get k = some b) {id sh : Nat} (hm : E.m[k]? = some (some (id, sh))) {w2 : World} {id2 sh2 c2 es : Nat} {start : Nat} {all : List AV} {xs : List Value}
    (hx : denL E all = some xs) (hst : start ≤ b.sz) (hK : ¬ K id2) (hid2 : id2 < w2.heap.size) (hsize : w.heap.size ≤ w2.heap.size) (hkept : Kept K w0 w2)
    (hoth : ∀ (j : Nat), j ≠ id → j < w.heap.size → w2.heap[j]? = w.heap[j]?)
    (hnew : ∀ (j : Nat) (bj : Blk) (p : Nat × Nat), st.heap.get j = some bj → bj.fam ≠ b.fam → E.m[j]? = some (some p) → p.1 ≠ id2)
    {cs : Array Value} {el : TypeId} {fr : Nat × Nat} (hh : w.heap[id]? = some (.cells cs el fr)) (hr : BlkRel E b sh cs fr)
    {cs' : Array Value} (hid : w2.heap[id]? = some (.cells cs' el fr)) (hidsz : cs'.size = cs.size) (hidc : ∀ i, i < start → cs'[i + sh]? = cs[i + sh]?)
    {cs2 : Array Value} {el2 : TypeId} {fr2 : Nat × Nat} (hh2 : w2.heap[id2]? = some (.cells cs2 el2 fr2)) (hfr2 : fr2.1 = fr2.2 ∨ cs2.size ≤ fr2.1) (hroom : xs.length + sh2 ≤ cs2.size) (hcells : ∀ (i : Nat) (y : Value), xs[i]? = some y → cs2[i + sh2]? = some y) (hcap : c2 * es + sh2 ≤ cs2.size) (hin : xs.length ≤ c2 * es)
    {h' : Tr Blk} (hget : ∀ j, h'.get j = if j = st.n then some ⟨lenL all, (layB all).1, (layB all).2.1, (layB all).2.2, b.fam, Nat.succ st.nc, es⟩ else if j = k then some ⟨start, cutTr b.cells (b.sz - start) start, [], 0, b.fam, b.cv, b.es⟩ else if j ∈ famOf st b k then none else st.heap.get j) :
    StRel X K w0 (E.both (id2, sh2) c2) ⟨Nat.succ st.n, Nat.succ st.nc, h', st.live.set b.fam (some [k, st.n]), st.x⟩ w2 ∧ HP E (E.both (id2, sh2) c2) st ⟨Nat.succ st.n, Nat.succ st.nc, h', st.live.set b.fam (some [k, st.n]), st.x⟩ := by
  have hle := E.le_both (id2, sh2) c2
  have hkn : k < st.n := (hS.lt k b hk).1
  have hmn := both_n hS (id2, sh2) c2
  have hkeep : ∀ (j : Nat) (q : Option (Nat × Nat)), E.m[j]? = some q → (E.both (id2, sh2) c2).m[j]? = some q := fun j q h => both_keep E _ _ h
  have hmk := hkeep k _ hm
  have hold : ∀ (j : Nat) (p : Nat × Nat), (E.both (id2, sh2) c2).m[j]? = some (some p) → (j < st.n ∧ E.m[j]? = some (some p)) ∨ (j = st.n ∧ p = (id2, sh2)) := by
    intro j p hp
    rcases both_old E _ _ hp with ⟨h1, h2⟩ | ⟨h1, h2⟩
    · exact .inl ⟨by rw [← hS.n_eq]; exact h1, h2⟩
    · exact .inr ⟨by rw [h1, hS.n_eq], by simpa using h2⟩
  obtain ⟨qf, hqf⟩ := hS.famh k b _ hk hm
  have kinds : ∀ j bj, h'.get j = some bj → (j = st.n ∧ bj = ⟨lenL all, (layB all).1, (layB all).2.1, (layB all).2.2, b.fam, Nat.succ st.nc, es⟩) ∨ (j = k ∧ bj = ⟨start, cutTr b.cells (b.sz - start) start, [], 0, b.fam, b.cv, b.es⟩) ∨
      (j ≠ k ∧ j < st.n ∧ st.heap.get j = some bj ∧ bj.fam ≠ b.fam) := by
    intro j bj hj
    rw [hget] at hj
    split at hj
    · cases hj; exact .inl ⟨by assumption, rfl⟩
    · split at hj
      · cases hj; exact .inr (.inl ⟨by assumption, rfl⟩)
      · split at hj
        · cases hj
        · rename_i h1 h2 h3
          exact .inr (.inr ⟨h2, (hS.lt j bj hj).1, hj, fun e => h3 (hS.lives k b hk j bj hj e)⟩)
  have fam_of : ∀ j bj, h'.get j = some bj → bj.fam = b.fam ∨ (st.heap.get j = some bj ∧ bj.fam ≠ b.fam) := by
    intro j bj hj
    rcases kinds j bj hj with ⟨_, rfl⟩ | ⟨_, rfl⟩ | ⟨_, _, h1, h2⟩
    · exact .inl rfl
    · exact .inl rfl
    · exact .inr ⟨h1, h2⟩
  refine ⟨⟨by simp [Env.both, hS.n_eq], by simp [Env.both, hS.c_eq], hS.z_eq, hS.a_eq, hS.o_eq, hS.klt, hkept, ?_, ?_, ?_, ?_, ?_, ?_, ?_, ?_, ?_, hS.facts, ?_, ?_, hS.ext.mono (E.le_both _ _)⟩, ?_⟩
  · intro j p hp
    rcases hold j p hp with ⟨_, h⟩ | ⟨_, rfl⟩
    · have := hS.ids j p h; exact ⟨this.1, Nat.lt_of_lt_of_le this.2 hsize⟩
    · exact ⟨hK, hid2⟩
  · intro j bj hj
    have hf := (hS.lt k b hk).2
    rcases kinds j bj hj with ⟨rfl, rfl⟩ | ⟨rfl, rfl⟩ | ⟨_, h0, h1, h2⟩
    · exact ⟨Nat.lt_succ_self _, Nat.lt_succ_of_lt hf⟩
    · exact ⟨Nat.lt_succ_of_lt hkn, Nat.lt_succ_of_lt hf⟩
    · have := hS.lt j bj h1; exact ⟨Nat.lt_succ_of_lt this.1, Nat.lt_succ_of_lt this.2⟩
  · intro j bj hj
    rcases kinds j bj hj with ⟨e0, e1⟩ | ⟨e0, e1⟩ | ⟨_, h0, h1, h2⟩
    · subst e0 e1
      refine .inr ⟨id2, sh2, cs2, el2, fr2, hmn, hh2, hfr2, ?_, ?_, ?_, ?_⟩
      · show lenL all + sh2 ≤ _; rw [lenL_eq, ← denL_length hx]; exact hroom
      · intro i v hv
        show i < lenL all
        rw [lenL_eq]
        exact (lay_spec all).1 i v hv
      · intro i hi
        have : i = st.nc := by have : Nat.succ st.nc = i + 1 := hi; omega
        subst this
        refine ⟨c2, both_c hS _ _, hcap, ?_⟩
        show lenL all ≤ _
        rw [lenL_eq, ← denL_length hx]; exact hin
      · intro i v hv
        obtain ⟨y, h1, h2⟩ := denL_get hx ((lay_spec all).2 i v _ _ _ hv)
        exact ⟨y, den_mono hle _ h1, by simpa using hcells _ _ h2⟩
    · subst e0 e1
      have hget' : ∀ i v, (cutTr b.cells (b.sz - start) start).get i = some v → i < start ∧ b.cells.get i = some v := by
        intro i v hv
        rw [cutTr_get] at hv
        split at hv
        · cases hv
        · have := hr.bnd i v hv; exact ⟨by omega, hv⟩
      refine .inr ⟨id, sh, cs', el, fr, hmk, hid, ?_, ?_, fun i v hv => (hget' i v hv).1, fun i hi => ?_, fun i v hv => ?_⟩
      · rw [hidsz]; exact hr.free
      · have := hr.room; show start + sh ≤ cs'.size; omega
      · obtain ⟨c, g1, g2, g3⟩ := hr.cap i hi; exact ⟨c, hle.caps _ _ g1, by show c * b.es + sh ≤ _; omega, by show start ≤ c * b.es; omega⟩
      · have hv' : (cutTr b.cells (b.sz - start) start).get i = some v := by
          rw [cell_eq] at hv
          simp only at hv
          cases e : (cutTr b.cells (b.sz - start) start).get i with
          | some u => rw [e] at hv; exact hv
          | none => rw [e] at hv; simp at hv
        obtain ⟨g1, g2⟩ := hget' i v hv'
        obtain ⟨y, g3, g4⟩ := hr.cells i v (by rw [cell_eq, g2])
        exact ⟨y, den_mono hle _ g3, by rw [hidc i g1]; exact g4⟩
    · rcases hS.blks j bj h1 with hn | ⟨id', sh', cs0, el0, fr0, hm', hh', hr'⟩
      · exact .inl ⟨hkeep _ _ hn.1, hn.2.1, fun i v hv => (hn.2.2 i v hv).mono hle⟩
      · have hne : id' ≠ id := hS.fams j k bj b id' sh' id sh h1 hk hm' hm h2
        exact .inr ⟨id', sh', cs0, el0, fr0, hkeep _ _ hm', by rw [hoth id' hne (hS.ids j _ hm').2]; exact hh', hr'.mono hle⟩
  · intro k1 k2 b1 b2 id1 sh1 id2' sh2' h1 h2 m1 m2 hf
    have two : ∀ (j1 j2 : Nat) (c1 c2' : Blk) (i1 s1 i2 s2 : Nat), h'.get j1 = some c1 → h'.get j2 = some c2' → (E.both (id2, sh2) c2).m[j1]? = some (some (i1, s1)) → (E.both (id2, sh2) c2).m[j2]? = some (some (i2, s2)) → c1.fam = b.fam → c2'.fam ≠ b.fam → i1 ≠ i2 := by
      intro j1 j2 c1 c2' i1 s1 i2 s2 g1 g2 n1 n2 f1 f2
      rcases kinds j2 c2' g2 with ⟨_, e⟩ | ⟨_, e⟩ | ⟨_, q1, q2, q3⟩
      · subst e; exact absurd rfl f2
      · subst e; exact absurd rfl f2
      · rcases hold j2 _ n2 with ⟨_, n2⟩ | ⟨e, _⟩
        · rcases kinds j1 c1 g1 with ⟨e1, _⟩ | ⟨e1, _⟩ | ⟨_, _, _, q⟩
          · rw [e1, hmn] at n1; cases n1
            exact fun e => hnew j2 c2' _ q2 q3 n2 e.symm
          · rw [e1, hmk] at n1; cases n1
            exact fun e => hS.fams j2 _ c2' b i2 s2 id sh q2 hk n2 hm q3 e.symm
          · exact absurd f1 q
        · omega
    rcases fam_of k1 b1 h1 with f1 | ⟨g1, f1⟩ <;> rcases fam_of k2 b2 h2 with f2 | ⟨g2, f2⟩
    · exact absurd (f1.trans f2.symm) hf
    · exact two k1 k2 b1 b2 id1 sh1 id2' sh2' h1 h2 m1 m2 f1 f2
    · exact fun e => two k2 k1 b2 b1 id2' sh2' id1 sh1 h2 h1 m2 m1 f2 f1 e.symm
    · rcases hold k1 _ m1 with ⟨_, m1⟩ | ⟨e, _⟩
      · rcases hold k2 _ m2 with ⟨_, m2⟩ | ⟨e, _⟩
        · exact hS.fams k1 k2 b1 b2 id1 sh1 id2' sh2' g1 g2 m1 m2 hf
        · have := (hS.lt k2 b2 g2).1; omega
      · have := (hS.lt k1 b1 g1).1; omega
  · intro f l hl
    have hl : (st.live.set b.fam (some [k, st.n])).get f = some l := hl
    rw [Tr.get_set] at hl
    split at hl
    · rename_i e; rw [← e]; exact Nat.lt_succ_of_lt (hS.lt k b hk).2
    · exact Nat.lt_succ_of_lt (hS.livelt f l hl)
  · intro j bj hj k' b' hk' hf
    show k' ∈ (Option.rec [j] (fun l => l) ((st.live.set b.fam (some [k, st.n])).get bj.fam) : List Nat)
    rcases fam_of j bj hj with f1 | ⟨g1, f1⟩
    · rw [f1, Tr.get_set_same]
      show k' ∈ [k, st.n]
      rcases kinds k' b' hk' with ⟨e, _⟩ | ⟨e, _⟩ | ⟨_, _, _, q⟩
      · simp [e]
      · simp [e]
      · exact absurd (hf.trans f1) q
    · rw [Tr.get_set_other _ _ (fun e => f1 e.symm)]
      rcases fam_of k' b' hk' with f2 | ⟨g2, f2⟩
      · exact absurd (hf.symm.trans f2) f1
      · exact hS.lives j bj g1 k' b' g2 hf
  · intro j oj hj
    obtain ⟨h1, h2⟩ := hS.objs j oj hj
    refine ⟨Nat.lt_succ_of_lt h1, ?_⟩
    rcases h2 with h2 | ⟨id3, ob, g1, g2, g3⟩
    · exact .inl (hkeep _ _ h2)
    · refine .inr ⟨id3, ob, hkeep _ _ g1, ?_, g3.mono hle⟩
      rw [hoth id3 _ (hS.ids j _ g1).2]; exact g2
      rintro rfl
      rw [hh] at g2; cases g2
      exact g3.notCells
  · intro k1 k2 o1 o2 p h1 h2 m1 m2
    have l1 := (hS.objs k1 o1 h1).1
    have l2 := (hS.objs k2 o2 h2).1
    rcases hold k1 _ m1 with ⟨_, m1⟩ | ⟨e, _⟩
    · rcases hold k2 _ m2 with ⟨_, m2⟩ | ⟨e, _⟩
      · exact hS.oinj k1 k2 o1 o2 p h1 h2 m1 m2
      · omega
    · omega
  · intro j oj hj
    have h0 := hS.apart j oj hj
    have h1 := (hS.objs j oj hj).1
    show h'.get j = none
    cases e : h'.get j with
    | none => rfl
    | some bj =>
      rcases kinds j bj e with ⟨e1, _⟩ | ⟨e1, _⟩ | ⟨_, _, q, _⟩
      · omega
      · subst e1; rw [hk] at h0; cases h0
      · rw [h0] at q; cases q
  · intro j bj p hj hp
    rcases kinds j bj hj with ⟨_, rfl⟩ | ⟨_, rfl⟩ | ⟨_, q0, q1, q2⟩
    · exact ⟨qf, hkeep _ _ hqf⟩
    · exact ⟨qf, hkeep _ _ hqf⟩
    · rcases hold j p hp with ⟨_, h⟩ | ⟨e, _⟩
      · obtain ⟨q, hq⟩ := hS.famh j bj p q1 h
        exact ⟨q, hkeep _ _ hq⟩
      · omega
  · intro f l hl
    have hl : (st.live.set b.fam (some [k, st.n])).get f = some l := hl
    rw [Tr.get_set] at hl
    split at hl
    · rename_i e
      cases hl
      rw [← e]
      refine ⟨⟨qf, hkeep _ _ hqf⟩, fun j hj => ?_⟩
      rcases List.mem_cons.1 hj with rfl | hj
      · exact ⟨_, hmk⟩
      · rw [List.mem_singleton.1 hj]; exact ⟨_, hmn⟩
    · obtain ⟨⟨q, hq⟩, h2⟩ := hS.liveh f l hl
      exact ⟨⟨q, hkeep _ _ hq⟩, fun j hj => let ⟨q, hq⟩ := h2 j hj; ⟨q, hkeep _ _ hq⟩⟩
  · intro j hj
    have hlt : j < st.n := by rw [← hS.n_eq]; exact (List.getElem?_eq_some_iff.1 hj).1
    refine ⟨hkeep _ _ hj, ?_, rfl, ?_⟩
    · show h'.get j = _
      rw [hget, if_neg (by omega), if_neg (fun e => by subst e; rw [hm] at hj; cases hj), if_neg fun h => ?_]
      obtain ⟨q, hq⟩ := fam_mem hS (k := k) (b := b) hm j h
      rw [hj] at hq; cases hq
    · show (st.live.set b.fam (some [k, st.n])).get j = _
      rw [Tr.get_set_other]
      rintro rfl
      rw [hqf] at hj; cases hj
end
end Go.Sy
/-! Append, whole; bytes and texts. -/
namespace Go.Sy
section
variable {X : Tabs} {K : Nat → Prop} {w0 : World} {E : Env} {st : St} {w : World} {Θ : Pred} {R : List Back} {tm : Tm} {k : Kt} {o : Oper}

theorem bif_inv {b : Bool} {x y : VC} (h : (bif_ b x y).holds Θ E.va R) : (b = true ∧ x.holds Θ E.va R) ∨ (b = false ∧ y.holds Θ E.va R) := bif_holds h
theorem appNew_eq (st : St) (k : Kt) (es len : Nat) (cs : List AV) : appNew st k es len cs = k (.slice (some ⟨.r st.n, 0⟩) len (.u st.nc 0)) ((⟨st.n, Nat.succ st.nc, st.heap, st.live, st.x⟩ : St).blk ⟨lenL cs, (layB cs).1, (layB cs).2.1, (layB cs).2.2, st.n, Nat.succ st.nc, es⟩) := by
  obtain ⟨m, nc, h, lv, x⟩ := st
  unfold appNew
  simp only
  rw [natK_eq, newCells_eq]

theorem append_core (hc : CxOK X K w0) (hS : StRel X K w0 E st w) {ρ : Operand → Value} {t u e : TypeId} {sz : Nat} {du : TypeDesc} {z : List AV} {vx : AV} {yx ys : Value} {sa : Option AAddr} {n : Nat} {c : Cap}
    (hdu : X.cx.und.get u = some du) (hsrc : srcD du = true) (hd : X.cx.und.get t = some (.slice e)) (hn : X.cx.size.get e = some sz) (hz : X.cx.zero.get e = some z) (hpos : 0 < sz)
    (hyx : vx.den E = some yx) (hys : (AV.slice sa n c).den E = some ys)
    (go : ∀ v w', (Builtin.append_ #[t, u] o.type #[ys, yx]).run X.P w = .ok v w' → (execOp ρ o).run X.P w = .ok (.value v) w')
    (h : (vbind (lenOf vx) fun m => vbind (srcCells X.cx st sz m vx) fun new => vbind (srcCells X.cx st sz n (.slice sa n c)) fun old =>
      natK (Nat.add n m) fun len => vif (Nat.ble (Nat.mul len (Nat.succ sz)) 16777216) (append st k sz sa n len new old c)).holds Θ E.va R) : OpRes X.P (Out X K w0 Θ R E st k) ((execOp ρ o).run X.P w) := by
  have hut := hc.und t _ hd
  have huu := hc.und u _ hdu
  obtain ⟨m, hm, h⟩ := vbind_inv h
  obtain ⟨new, hnew, h⟩ := vbind_inv h
  obtain ⟨old, hold, h⟩ := vbind_inv h
  rw [natK_eq] at h
  obtain ⟨hcond, h⟩ := vif_inv h
  rw [ble_iff, decide_eq_true_eq, natMul, natAdd] at hcond
  have hneed : n + m ≤ 16777216 := by
    have : (n + m) * 1 ≤ (n + m) * (sz + 1) := Nat.mul_le_mul_left _ (by omega)
    have h2 : (n + m) * (sz + 1) ≤ 16777216 := hcond
    omega
  have hlen : ∀ w, (Builtin.lenOf yx).run X.P w = .ok m w := fun w => lenOf_sound hm hyx w
  obtain ⟨xn, hxn, hm0, hrn, _⟩ := srcCells_sound hc hS hnew hyx hm (Nat.le_refl _)
  obtain ⟨xn', hxn', _, hrn', _⟩ := srcCells_sound hc hS.drew hnew hyx hm (Nat.le_refl _)
  rw [hxn] at hxn'; cases hxn'
  obtain ⟨xo, hxo, hlo, hro, hcell⟩ := srcCells_sound hc hS hold hys (m := n) rfl (Nat.le_refl _)
  obtain ⟨xo', hxo', _, hro', _⟩ := srcCells_sound hc hS.drew hold hys (m := n) rfl (Nat.le_refl _)
  rw [hxo] at hxo'; cases hxo'
  have hall := denL_append hxo hxn
  have grown : ∀ (cp : Nat) (sa' : Option Addr), ys = .slice sa' n cp → ¬ n + m ≤ cp → (appNew st k sz (n + m) (old ++ new)).holds Θ E.va R → OpRes X.P (Out X K w0 Θ R E st k) ((execOp ρ o).run X.P w) := by
    intro cp sa' e0 hgt h
    subst e0
    obtain ⟨_, hB⟩ := run_append (ty := o.type) hc hut huu hsrc hz hn hneed hlen hrn hro' hrn'
    obtain ⟨cc, rest, h1, h2, h3⟩ := hB hgt
    rw [go _ _ h3]
    have hxl : (xo ++ xn).length = n * sz + m * sz := by simp [hlo, hm0]
    obtain ⟨g1, g2⟩ := hS.newGrown hall (c := cc) (es := sz) (rest := rest) (el := e) (by rw [hxl, h2]; exact cap_arith n m cc sz h1) (by rw [hxl, ← Nat.add_mul]; exact Nat.mul_le_mul_right _ h1) w.drew rfl hS.drew
    rw [appNew_eq] at h
    exact ⟨_, _, E.both (w.heap.size, 0) cc, R, List.prefix_rfl, h, E.le_both _ _, g1, g2, slice_u_den hS h1⟩
  rcases den_slice_inv hys with ⟨rfl, rfl, rfl, rfl⟩ | ⟨p, ad, cp, rfl, had, hcp, hncp, rfl⟩
  · change (bif_ (Nat.ble (0 + m) 0) (appIn st k sz 0 (0 + m) 0 new none) (appNew st k sz (0 + m) (old ++ new))).holds Θ E.va R at h
    rw [ble_iff] at h
    by_cases c : 0 + m ≤ 0
    · rw [decide_eq_true c] at h
      have hm00 : m = 0 := by omega
      subst hm00
      obtain ⟨hA, _⟩ := run_append (ty := o.type) hc hut huu hsrc hz hn hneed hlen hrn hro' hrn'
      rw [go _ _ (hA c w rfl)]
      exact .now h hS rfl
    · rw [decide_eq_false c] at h
      exact grown 0 none rfl c h
  · obtain ⟨hA, hB⟩ := run_append (ty := o.type) hc hut huu hsrc hz hn hneed hlen hrn hro' hrn'
    cases c with
    | t _ => cases hcp
    | k cc =>
      simp only [cden, Option.some.injEq] at hcp
      subst hcp
      change (bif_ (Nat.ble (n + m) cc) (appIn st k sz n (n + m) cc new (some p)) (appNew st k sz (n + m) (old ++ new))).holds Θ E.va R at h
      rw [ble_iff] at h
      by_cases c : n + m ≤ cc
      · rw [decide_eq_true c] at h
        obtain ⟨b, off⟩ := p
        cases b with
        | g _ => exact h.elim
        | a _ => exact h.elim
        | r b =>
          obtain ⟨st', w', g1, g2, g3, g4⟩ := storeCells_sound hS h hxn (aden_add had (n * sz))
          rw [go _ _ (hA c w' g2)]
          refine ⟨_, st', E, R, List.prefix_rfl, g1, .refl E, g3, g4, ?_⟩
          simp only [AV.den, had, cden]
          rw [if_pos c]
      · rw [decide_eq_false c] at h
        exact grown cc (some ad) rfl c h
    | u i sub =>
      obtain ⟨b, off⟩ := p
      cases b with
      | g _ => exact h.elim
      | a _ => exact h.elim
      | r id =>
        obtain ⟨c0, hc0, hsub, hcp'⟩ : ∃ c0, E.caps[i]? = some c0 ∧ sub ≤ c0 ∧ cp = c0 - sub := by
          simp only [cden] at hcp
          cases hc0 : E.caps[i]? with
          | none => rw [hc0] at hcp; cases hcp
          | some c0 =>
            rw [hc0] at hcp
            simp only at hcp
            split at hcp
            · cases hcp; exact ⟨c0, rfl, by assumption, rfl⟩
            · cases hcp
        change (bif_ (Nat.ble (n + m) (knownU sz i sub n st (some ⟨.r id, off⟩))) (storeCells st id (Nat.add off (Nat.mul n sz)) new fun st => k (.slice (some ⟨.r id, off⟩) (n + m) (.u i sub)) st) _).holds Θ E.va R at h
        rw [ble_iff] at h
        have hkn := knownU_ok hS (es := sz) (i := i) (sub := sub) (n := n) (a := some ⟨.r id, off⟩) hc0 (by omega)
        by_cases c : n + m ≤ knownU sz i sub n st (some ⟨.r id, off⟩)
        · rw [decide_eq_true c] at h
          have hfit : n + m ≤ cp := by omega
          obtain ⟨st', w', g1, g2, g3, g4⟩ := storeCells_sound hS h hxn (aden_add had (n * sz))
          rw [go _ _ (hA hfit w' g2)]
          refine ⟨_, st', E, R, List.prefix_rfl, g1, .refl E, g3, g4, ?_⟩
          simp only [AV.den, had, hcp]
          rw [if_pos hfit]
        · rw [decide_eq_false c] at h
          obtain ⟨b, hb', h⟩ := vbind_inv h
          obtain ⟨hcond2, h⟩ := vif_inv h
          simp only [Bool.and_eq_true, beq_iff, ble_iff, decide_eq_true_eq] at hcond2
          obtain ⟨k1, k2, k3, k4, k5, k6⟩ := hcond2
          rw [natMul] at k3
          rw [natAdd, natMul] at k6
          obtain ⟨q, hmid, had'⟩ := aden_r had
          obtain ⟨idr, sh⟩ := q
          subst had'
          obtain ⟨cs, el, fr, hh, hr⟩ := blk_of hS hb' hmid
          obtain ⟨c1, hc1, hroom, _⟩ := hr.cap i k1
          rw [hc0] at hc1; cases hc1
          unfold appU at h
          rw [Tr.setK_eq, natK_eq, layK_eq, natK_eq, natK_eq, Tr.setK_eq, Tr.setK_eq, natK_eq] at h
          have hget : ∀ j, (((killOthers st.heap id (famOf st b id)).set id (some ⟨Nat.add off (Nat.mul n sz), cutTr b.cells (Nat.sub b.sz (Nat.add off (Nat.mul n sz))) (Nat.add off (Nat.mul n sz)), [], 0, b.fam, b.cv, b.es⟩)).set st.n
              (some ⟨lenL (old ++ new), (layB (old ++ new)).1, (layB (old ++ new)).2.1, (layB (old ++ new)).2.2, b.fam, Nat.succ st.nc, sz⟩)).get j =
              if j = st.n then some ⟨lenL (old ++ new), (layB (old ++ new)).1, (layB (old ++ new)).2.1, (layB (old ++ new)).2.2, b.fam, Nat.succ st.nc, sz⟩ else if j = id then some ⟨off + n * sz, cutTr b.cells (b.sz - (off + n * sz)) (off + n * sz), [], 0, b.fam, b.cv, b.es⟩
              else if j ∈ famOf st b id then none else st.heap.get j := by
            intro j
            rw [Tr.get_set, Tr.get_set]
            by_cases e1 : st.n = j
            · subst e1; simp
            · rw [if_neg e1, if_neg (show ¬ j = st.n from fun h => e1 h.symm)]
              by_cases e2 : id = j
              · subst e2; rw [if_pos rfl, if_pos rfl]; rfl
              · rw [if_neg e2, if_neg (show ¬ j = id from fun h => e2 h.symm), killOthers_get]
                by_cases e3 : j ∈ famOf st b id
                · rw [if_pos ⟨e3, fun h => e2 h.symm⟩, if_pos e3]
                · rw [if_neg (fun h => e3 h.1), if_neg e3]
          have hids := hS.ids id _ hmid
          have hxl : (xo ++ xn).length = n * sz + m * sz := by simp [hlo, hm0]
          by_cases hin : n + m ≤ cp
          · clear hB
            have hmul : (sub + n + m) * sz ≤ c0 * sz := Nat.mul_le_mul_right _ (by omega)
            have hfit : off + sh + n * sz + m * sz ≤ cs.size := by
              rw [Nat.add_mul, Nat.add_mul] at hmul
              rw [k2] at hroom; omega
            have hst := run_storeCells_free X.P idr (off + sh + n * sz) el fr xn 0 cs w hh hr.free' (by rw [hm0]; omega) (denL_one (allOne_mem k4) hxn)
            simp only [Nat.add_zero] at hst
            have hadd : (⟨idr, off + sh, none⟩ : Addr).add (n * sz) = ⟨idr, off + sh + n * sz, none⟩ := add_eq _ _ _
            have hrun := hA hin _ (by simp only []; rw [hadd]; exact hst)
            rw [go _ _ hrun]
            have hsz2 : (cs.toList.take (off + sh + n * sz) ++ xn ++ cs.toList.drop (off + sh + n * sz + xn.length)).toArray.size = cs.size := by
              simp only [List.size_toArray, List.length_append, List.length_take, List.length_drop, Array.length_toList]; omega
            have hspl : ∀ i, (cs.toList.take (off + sh + n * sz) ++ xn ++ cs.toList.drop (off + sh + n * sz + xn.length)).toArray[i]? = if off + sh + n * sz ≤ i ∧ i < off + sh + n * sz + xn.length then xn[i - (off + sh + n * sz)]? else cs[i]? := by
              intro i; rw [splice_get _ _ _ _ (by simp; omega)]; simp
            have hrow := setRow_heap w idr cs (cs.toList.take (off + sh + n * sz) ++ xn ++ cs.toList.drop (off + sh + n * sz + xn.length)).toArray el fr hh
            obtain ⟨g1, g2⟩ := shared hS hb' hmid hall (c2 := cp) (es := sz) (start := off + n * sz) (id2 := idr) (sh2 := off + sh) k6 hids.1 (by rw [Go.Sy.setRow_size]; exact hids.2) (by rw [Go.Sy.setRow_size]; exact Nat.le_refl _) (hS.kept.setRow hids.1 _) (fun j hj _ => Go.Sy.setRow_other _ _ _ hj)
              (fun j bj q hj hf hq => hS.fams j id bj b q.1 q.2 idr sh hj hb' hq hmid hf) hh hr hrow hsz2 (fun i hi => by rw [hspl, if_neg (by omega)]) hrow (by rw [hsz2]; exact hr.free)
              (by rw [hsz2, hxl]; omega) (fun i y hy => by
                rw [hspl]
                by_cases c : i < n * sz
                · rw [if_neg (by omega)]
                  rw [List.getElem?_append_left (by omega)] at hy
                  have hn0 : 0 < n := by
                    rcases Nat.eq_zero_or_pos n with e | e
                    · subst e; simp at c
                    · exact e
                  have h5 := hcell _ _ _ rfl hn0 i y hy
                  rw [add_eq] at h5
                  simp only [World.cell?, hh] at h5
                  rw [← h5]; simp; congr 1; omega
                · rw [List.getElem?_append_right (by omega)] at hy
                  have h5 := (List.getElem?_eq_some_iff.1 hy).1
                  rw [if_pos (by omega), ← hy]; congr 1; omega) (by
                rw [hsz2]
                have : (cp + sub) * sz = c0 * sz := by congr 1; omega
                rw [Nat.add_mul] at this
                rw [k2] at hroom; omega) (by rw [hxl, ← Nat.add_mul]; exact Nat.mul_le_mul_right _ hin) hget
            exact ⟨_, _, E.both (idr, off + sh) cp, R, List.prefix_rfl, h, E.le_both _ _, g1, g2, slice_u_den hS hin⟩
          · -- a new one
            obtain ⟨c2, rest, h1, h2, h3⟩ := hB hin
            rw [go _ _ h3]
            have hszr : ((xo ++ xn).toArray ++ rest).size = n * sz + m * sz + (c2 - (n + m)) * sz := by simp only [Array.size_append, List.size_toArray, hxl, h2]
            have halloc : ∀ j, j < w.heap.size → (w.drew.alloc (.cells ((xo ++ xn).toArray ++ rest) e)).heap[j]? = w.heap[j]? := fun j hj => Go.RowKit.Below.heap_alloc w.drew _ j hj
            obtain ⟨g1, g2⟩ := shared hS hb' hmid hall (c2 := c2) (es := sz) (start := off + n * sz) (id2 := w.heap.size) (sh2 := 0) k6 (fun hK => absurd (hS.klt' _ hK) (Nat.lt_irrefl _)) (w2 := w.drew.alloc (.cells ((xo ++ xn).toArray ++ rest) e)) (by simp) (by simp) (hS.drew.kept.alloc hS.klt' _) (fun j _ hj => halloc j hj)
              (fun j bj q hj hf hq => by have := (hS.ids j q hq).2; omega) hh hr (by rw [halloc _ hids.2]; exact hh) rfl (fun _ _ => rfl) (cs2 := (xo ++ xn).toArray ++ rest) (el2 := e) (fr2 := (0, 0)) (by show (w.heap.push _)[w.heap.size]? = _; simp) (.inl rfl)
              (by rw [hszr, hxl]; omega) (fun i y hy => by
                have := (List.getElem?_eq_some_iff.1 hy).1
                rw [Nat.add_zero, Array.getElem?_append_left (by simpa using this)]; simpa using hy) (by rw [hszr, Nat.add_zero]; exact cap_arith n m c2 sz h1) (by rw [hxl, ← Nat.add_mul]; exact Nat.mul_le_mul_right _ h1) hget
            exact ⟨_, _, E.both (w.heap.size, 0) c2, R, List.prefix_rfl, h, E.le_both _ _, g1, g2, slice_u_den hS h1⟩
theorem append_empty (hc : CxOK X K w0) {t u e ty : TypeId} {du : TypeDesc} {sz m : Nat} {z : List AV} {x x' : Addr} {yx : Value} (ht : X.P.underlying t = some (.slice e)) (hu : X.P.underlying u = some du) (hsrc : srcD du = true) (hz : X.cx.zero.get e = some z) (hs : X.cx.size.get e = some sz) (hm : 0 < m) (hneed : 0 + m ≤ 16777216) (hlen : ∀ w, (Builtin.lenOf yx).run X.P w = .ok m w) :
    (Builtin.append_ #[t, u] ty #[.slice (some x) 0 0, yx]).run X.P w = (Builtin.append_ #[t, u] ty #[.slice (some x') 0 0, yx]).run X.P w := by
  obtain ⟨ie, zv, h1, h2, h3, h4, h5, _⟩ := hc.zero e z hz
  have hm' : ¬ m = 0 := by omega
  have hnc := nextcap_le (show 0 < m by omega) (show m ≤ 16777216 by omega)
  have hb' : ¬ (281474976710656 < Builtin.nextslicecap m 0 * ie.bytes) := by
    have : Builtin.nextslicecap m 0 * ie.bytes ≤ 33554432 * 1048576 := Nat.mul_le_mul hnc h4
    omega
  have hmax' : ¬ (9223372036854775807 < (m : Int)) := by omega
  cases du <;> first | (cases hsrc; done) | simp [Builtin.append_, run_underlying ht, run_underlying hu, hc.size' hs, hlen, hm', typeInfo, h1, hb', hmax', Builtin.firstCells, loadCells, loadCellsFrom]
theorem append_out (hc : CxOK X K w0) (hS : StRel X K w0 E st w) {args : Array Operand} {tys : Array TypeId} {bs : List BO} {t u e : TypeId} {sz : Nat} {du : TypeDesc} {z : List AV} {b0 bx : BO} (ho : o.op = .call ⟨.builtin .append, args, tys⟩) (hb : cOs args.toList = some bs)
    (ht : getL 0 tys.toList = some t) (hu : getL 1 tys.toList = some u) (hdu : X.cx.und.get u = some du) (hsrc : srcD du = true) (hs0 : getL 0 bs = some b0) (hx : getL 1 bs = some bx) (hd : X.cx.und.get t = some (.slice e)) (hn : X.cx.size.get e = some sz) (hz : X.cx.zero.get e = some z) (hpos : 0 < sz)
    (h : (xAppend X.cx sz (ev tm bx) st k (ev tm b0)).holds Θ E.va R) : EffOut X K w0 Θ R E o tm st w k := by
  intro ρ hR
  obtain ⟨yx, hyx, hyx2⟩ := barg ho hb hR hx
  obtain ⟨ys, hys, hys2⟩ := barg ho hb hR hs0
  have ht' := tys_get ht
  have hu' := tys_get hu
  have hut := hc.und t _ hd
  have huu := hc.und u _ hdu
  have go : ∀ v w', (Builtin.append_ #[t, u] o.type #[ys, yx]).run X.P w = .ok v w' → (execOp ρ o).run X.P w = .ok (.value v) w' := by
    intro v w' hw'
    have e1 : (Builtin.append_ tys o.type (args.map ρ)) = (Builtin.append_ #[t, u] o.type #[ys, yx]) := by
      simp only [Builtin.append_, ht', hu', hys2, hyx2]
      rfl
    simp [execOp, ho, resolve, invoke, Go.builtin, e1, hw']
  unfold xAppend at h
  split at h
  case h_3 => exact h.elim
  · rename_i sa n c hev
    rw [hev] at hys
    exact append_core hc hS hdu hsrc hd hn hz hpos hyx hys go h
  · rename_i p i n d hev
    rw [hev] at hys
    obtain ⟨m, hm, h⟩ := vbind_inv h
    obtain ⟨new, hnew, h⟩ := vbind_inv h
    have hlen : ∀ w, (Builtin.lenOf yx).run X.P w = .ok m w := fun w => lenOf_sound hm hyx w
    obtain ⟨xn, hxn, hml, hrn, _⟩ := srcCells_sound hc hS hnew hyx hm (Nat.le_refl _)
    obtain ⟨xn', hxn', _, hrn', _⟩ := srcCells_sound hc hS.drew hnew hyx hm (Nat.le_refl _)
    rw [hxn] at hxn'; cases hxn'
    have hys0 := hys
    obtain ⟨x, c0, hx0, hc0, hle, rfl⟩ := den_sl0 hys
    rcases bif_inv h with ⟨e0, h⟩ | ⟨e0, h⟩
    · rw [beq_iff, decide_eq_true_eq] at e0
      subst e0
      have : xn = [] := List.eq_nil_of_length_eq_zero (by omega)
      subst this
      obtain ⟨hA, _⟩ := run_append (ty := o.type) (m := 0) (n := 0) (old := []) (new := []) hc hut huu hsrc hz hn (by omega) hlen hrn (ad := some (if c0 = n then x else x.add d)) (cap := c0 - n) (by simp [Builtin.firstCells, loadCells, loadCellsFrom]) hrn'
      rw [go _ _ (hA (by omega) w (by simp [Go.storeCells]))]
      exact .now h hS hys0
    · have hmp : ¬ m = 0 := by
        intro e; subst e; cases e0
      have hys' : (AV.slice (some ⟨p.b, Nat.add p.off d⟩) 0 (.u i n)).den E = some (.slice (some (x.add d)) 0 (c0 - n)) := by
        have : aden E ⟨p.b, Nat.add p.off d⟩ = some (x.add d) := aden_add (b := p.b) (off := p.off) hx0 d
        simp only [AV.den, this, cden, hc0]
        rw [if_pos hle]; simp
      have hneed : 0 + m ≤ 16777216 := by
        obtain ⟨_, _, h⟩ := vbind_inv h
        rw [natK_eq] at h
        obtain ⟨hcond, _⟩ := vif_inv h
        rw [ble_iff, decide_eq_true_eq, natMul, natAdd] at hcond
        have : (0 + m) * 1 ≤ (0 + m) * (sz + 1) := Nat.mul_le_mul_left _ (by omega)
        have h2 : (0 + m) * (sz + 1) ≤ 16777216 := hcond
        omega
      have hback : (vbind (lenOf (ev tm bx)) fun m => vbind (srcCells X.cx st sz m (ev tm bx)) fun new => vbind (srcCells X.cx st sz 0 (.slice (some ⟨p.b, Nat.add p.off d⟩) 0 (.u i n))) fun old =>
          natK (Nat.add 0 m) fun len => vif (Nat.ble (Nat.mul len (Nat.succ sz)) 16777216) (append st k sz (some ⟨p.b, Nat.add p.off d⟩) 0 len new old (.u i n))).holds Θ E.va R := by
        rw [hm]
        show (vbind (srcCells X.cx st sz m (ev tm bx)) _).holds Θ E.va R
        rw [hnew]
        exact h
      by_cases e : c0 = n
      · refine append_core hc hS hdu hsrc hd hn hz hpos hyx hys' (fun v w' hr => go v w' ?_) hback
        rw [if_pos e, ← hr]
        have : c0 - n = 0 := by omega
        rw [this]
        exact append_empty hc hut huu hsrc hz hn (by omega) hneed hlen
      · rw [if_neg e] at go
        exact append_core hc hS hdu hsrc hd hn hz hpos hyx hys' go hback
end
end Go.Sy
/-! Bytes and texts. -/
namespace Go.Sy
section
variable {X : Tabs} {K : Nat → Prop} {w0 : World} {E : Env} {st : St} {w : World} {Θ : Pred} {R : List Back} {tm : Tm} {k : Kt} {o : Oper}

theorem cellNats_inv : ∀ {l : List AV} {ns : List Nat}, cellNats l = some ns → l = byteAVs ns
  | [], ns, h => by cases h; rfl
  | v :: r, ns, h => by
    unfold cellNats at h
    split at h
    · rename_i e; cases e
    · rename_i n r' e
      obtain ⟨l, hl, h⟩ := obind_inv h
      cases h
      cases e
      rw [cellNats_inv hl]; rfl
    · cases h
theorem bytes_lt : ∀ {ns : List Nat} {xs : List Value}, denL E (byteAVs ns) = some xs → (∀ c ∈ ns, c < 256) ∧ xs = (ns.map (Int.ofNat)).map (Value.int .u8)
  | [], xs, h => by rw [denL_nil.1 h]; exact ⟨by simp, rfl⟩
  | n :: ns, xs, h => by
    obtain ⟨a, b, ha, hb, rfl⟩ := denL_cons.1 h
    obtain ⟨h1, h2⟩ := bytes_lt hb
    obtain ⟨h3, rfl⟩ := den_int ha
    have hn : n < 256 := by simpa [modOf] using h3
    refine ⟨fun c hc => ?_, ?_⟩
    · rcases List.mem_cons.1 hc with rfl | hc
      · exact hn
      · exact h1 c hc
    · rw [h2, sgn_nat .u8 (by simpa [halfOf] using hn)]; rfl
theorem foldl_bytes : ∀ (ns : List Nat) (l : List Nat), (ns.map Int.ofNat).foldl (fun r n => r.push (UInt8.ofNat n.toNat)) (bytesOf l) = bytesOf (l ++ ns)
  | [], l => by simp
  | n :: ns, l => by
    simp only [List.map_cons, List.foldl_cons]
    have : (bytesOf l).push (UInt8.ofNat (Int.ofNat n).toNat) = bytesOf (l ++ [n]) := by
      unfold bytesOf ByteArray.push
      simp
    rw [this, foldl_bytes ns (l ++ [n])]
    simp
theorem u8_of {und : Tr TypeDesc} {e : TypeId} (h : isU8 und e = true) : und.get e = some (.int .u8) := by
  unfold isU8 at h
  cases hd : und.get e with
  | none => rw [hd] at h; cases h
  | some d =>
    rw [hd] at h
    cases d <;> first | (cases h; done) | skip
    rename_i kd
    cases kd <;> first | (cases h; done) | rfl
theorem shape_alloc (w : World) (ys : Array Value) (e : TypeId) (fr : Nat × Nat) : (w.alloc (.cells ys e fr)).shape? w.heap.size = some (e, ys.size) := by
  have : (w.alloc (.cells ys e fr)).heap[w.heap.size]? = some (.cells ys e fr) := World.alloc_heap_new _ _
  unfold World.shape?
  rw [this]
theorem bytes_nil : ByteArray.empty = bytesOf [] := rfl
theorem run_stringToBytes {P : Program} (w : World) (e : TypeId) (s : List Nat) (hs : ∀ c ∈ s, c < 256) : ∃ (c : Nat) (rest : Array Value), s.length ≤ c ∧ rest.size = c - s.length ∧
    (Conv.stringToBytes e (bytesOf s)).run P w = .ok (.slice (some ⟨w.heap.size, 0, none⟩) s.length c) ((w.drew.alloc (.cells ((s.map fun (c : Nat) => Value.int .u8 (c : Int)).toArray ++ rest) e)).freeze ⟨w.heap.size, ((s.map fun (c : Nat) => Value.int .u8 (c : Int)).toArray ++ rest).size, none⟩ 1) := by
  have hf : (Question.appendCap s.length 0 e).forced = false := rfl
  refine ⟨(Question.appendCap s.length 0 e).cut (w.tape w.drawn (.appendCap s.length 0 e)), Array.replicate ((Question.appendCap s.length 0 e).cut (w.tape w.drawn (.appendCap s.length 0 e)) - s.length) (.int .u8 0), ?_, by simp, ?_⟩
  · simp only [Question.cut]; omega
  · have hsz := bytesOf_size s
    have hm := bytes_map hs
    have hshape := shape_alloc w.drew ((s.map fun (c : Nat) => Value.int .u8 (c : Int)).toArray ++ Array.replicate ((Question.appendCap s.length 0 e).cut (w.tape w.drawn (.appendCap s.length 0 e)) - s.length) (.int .u8 0)) e (0, 0)
    change World.shape? _ w.heap.size = _ at hshape
    simp [Conv.stringToBytes, hsz, hm, hf, newRow, markStringish, hshape]
theorem xOfStr_eq (st : St) (k : Kt) (n : Nat) (s : List Nat) : xOfStr st k n s = k (.slice (some ⟨.r st.n, 0⟩) n (.u st.nc 0)) ((⟨st.n, Nat.succ st.nc, st.heap, st.live, st.x⟩ : St).blk ⟨lenL (byteAVs s), (layB (byteAVs s)).1, (layB (byteAVs s)).2.1, (layB (byteAVs s)).2.2, st.n, Nat.succ st.nc, 1⟩) := by
  obtain ⟨m, nc, h, lv, x⟩ := st
  unfold xOfStr
  simp only
  rw [natK_eq, newCells_eq]
theorem conv_out (hc : CxOK X K w0) (hS : StRel X K w0 E st w) {s d : TypeId} {sd dd : TypeDesc} {x : Operand} {b : BO} (hb : cO x = some b) (hs : X.cx.und.get s = some sd) (hd : X.cx.und.get d = some dd) (ho : o.op = .convert s d x) (hne : (isEffC sd dd && not (Nat.beq s d)) = true) (hO : Oks E tm)
    (h : (conv1 X.cx st k (ebOf X.cx.und sd dd) (Nat.beq s d) dd (ev tm b)).holds Θ E.va R) : EffOut X K w0 Θ R E o tm st w k := by
  have hx0 : x ∈ o.op.operands.toList := by rw [ho]; simp [Op.operands]
  have hus := hc.und s sd hs
  have hud := hc.und d dd hd
  have hov := hO.ev hb
  rw [Bool.and_eq_true] at hne
  obtain ⟨hne, hsm⟩ := hne
  have hsm' : Nat.beq s d = false := by simpa using hsm
  rw [hsm'] at h
  intro ρ hR
  have hx := hR.get hx0 hb
  unfold conv1 at h
  split at h
  · cases sd <;> cases hne
  · split at h
    · rename_i n s' hev
      rw [hev] at hx
      obtain ⟨_, _, e0⟩ := den_str hx
      have hrun : (execOp ρ o).run X.P w = .ok (.value (ρ x)) w := by
        rw [run_conv ho, e0]
        unfold convert
        simp only [Sem.run_bind, run_underlying hus, run_underlying hud, Result.andThen_ok]
        cases sd <;> simp
      rw [hrun]
      exact .now h hS hx
    · rename_i j u hev
      rw [hev] at hov hx
      obtain ⟨u', hu', h⟩ := vbind_inv h
      obtain ⟨hlt, h⟩ := vif_inv h
      obtain ⟨j', e1, e2, _⟩ := natOf_inv hu' hov
      cases e1
      rw [blt_iff, decide_eq_true_eq] at hlt
      obtain ⟨_, e0⟩ := den_int hx
      have hrun : (execOp ρ o).run X.P w = .ok (.value (.string (bytesOf [u]))) w := by
        rw [run_conv ho, e0, e2]
        unfold convert
        simp only [Sem.run_bind, run_underlying hus, run_underlying hud, Result.andThen_ok]
        cases sd <;> simp [Conv.intToString, encode_small hlt]
      rw [hrun]
      exact .now h hS (den_str_of (n := 1) (s := [u]) rfl (by intro c hc; rw [List.mem_singleton.1 hc]; omega))
    · have he := (vif_inv h).1
      replace h := (vif_inv h).2
      obtain ⟨e, rfl, he8⟩ : ∃ e, sd = .slice e ∧ isU8 X.cx.und e = true := by
        cases sd <;> first | (cases he; done) | exact ⟨_, rfl, he⟩
      have he8 := hc.und e _ (u8_of he8)
      have go : ∀ a l c v, ρ x = .slice a l c → (Conv.bytesToString (.slice a l c)).run X.P w = .ok v w → (execOp ρ o).run X.P w = .ok (.value v) w := by
        intro a l c v e0 hv
        rw [run_conv ho, e0, Sem.run_bind, run_convert_bytes_string w s d e a l c hus he8 hud, hv]; rfl
      unfold xToStr at h
      clear hov
      split at h
      · rename_i hev
        rw [hev] at hx
        rcases den_slice_inv hx with ⟨_, _, _, e0⟩ | ⟨p, ad, cp, e1, _⟩
        · rw [go _ _ _ (.string (bytesOf [])) e0 (by rw [← bytes_nil]; rfl)]
          exact .now h hS (den_str_of rfl (by simp))
        · cases e1
      · rename_i hev
        rw [hev] at hx
        obtain ⟨y, c, _, _, _, e0⟩ := den_sl0 hx
        have hrun : ∀ (q : Addr) (n : Nat), (Conv.bytesToString (.slice (some q) 0 n)).run X.P w = .ok (.string (bytesOf [])) w := fun q n => by
          have := run_bytesToString (P := X.P) w q 0 n [] (run_loadCells_list (P := X.P) (w := w) q [] (fun i x hx => by simp at hx))
          simp only [List.foldl_nil] at this
          rw [← bytes_nil]; exact this
        rw [go _ _ _ (.string (bytesOf [])) e0 (hrun _ _)]
        exact .now h hS (den_str_of rfl (by simp))
      · rename_i a n c hev
        rw [hev] at hx
        obtain ⟨l, hl, h⟩ := vbind_inv h
        obtain ⟨ns, hns, h⟩ := vbind_inv h
        rcases den_slice_inv hx with ⟨e1, _⟩ | ⟨p, ad, cp, e1, had, _, _, e0⟩
        · cases e1
        · cases e1
          obtain ⟨xs, h1, h2, h3, _⟩ := cells_sound hc hS hl had
          rw [cellNats_inv hns] at h1
          obtain ⟨h4, h5⟩ := bytes_lt h1
          rw [h5] at h3
          have hlen : n = ns.length := by rw [← h2, h5]; simp
          have hrun := run_bytesToString (P := X.P) w ad n cp (ns.map Int.ofNat) h3
          have e2 : (ns.map Int.ofNat).foldl (fun r n => r.push (UInt8.ofNat n.toNat)) ByteArray.empty = bytesOf ns := by
            have := foldl_bytes ns []
            rw [bytes_nil, this]; simp
          rw [e2] at hrun
          rw [go _ _ _ _ e0 hrun]
          exact .now h hS (den_str_of hlen h4)
      · exact h.elim
  · rename_i e
    split at h
    · rename_i n s' hev
      rw [hev] at hx
      obtain ⟨he, h⟩ := vif_inv h
      obtain ⟨hn, hs', e0⟩ := den_str hx
      rw [Bool.and_eq_true] at he
      have hebof : ebOf X.cx.und sd (.slice e) = isU8 X.cx.und e := by cases sd <;> rfl
      have he8 : isU8 X.cx.und e = true := hebof ▸ he.1
      have he8 := hc.und e _ (u8_of he8)
      obtain ⟨c, rest, h1, h2, h3⟩ := run_stringToBytes (P := X.P) w e s' hs'
      have hrun : ∀ v w', (Conv.stringToBytes e (bytesOf s')).run X.P w = .ok v w' → (execOp ρ o).run X.P w = .ok (.value v) w' := by
        intro v w' hv
        rw [run_conv ho, e0]
        unfold convert
        simp only [Sem.run_bind, run_underlying hus, run_underlying hud, Result.andThen_ok]
        cases sd <;> simp [run_underlying he8, hv]
      rw [hrun _ _ h3]
      rw [xOfStr_eq] at h
      obtain ⟨g1, g2⟩ := hS.newGrown (denL_bytes hs') (c := c) (es := 1) (rest := rest) (el := e) (by simp [h2]; omega) (by simp; exact h1) w.drew rfl hS.drew
      have hnk : ¬ K w.heap.size := fun hK => absurd (hS.klt' _ hK) (Nat.lt_irrefl _)
      have g3 := g1.freeze (id := w.heap.size) hnk (cs := (s'.map fun (c : Nat) => Value.int .u8 (c : Int)).toArray ++ rest) (el := e) (fr := (0, 0)) (by show (w.heap.push _)[w.heap.size]? = _; simp)
      exact ⟨_, _, E.both (w.heap.size, 0) c, R, List.prefix_rfl, h, E.le_both _ _, g3, g2, by rw [hn]; exact slice_u_den hS h1⟩
    · obtain ⟨he, _⟩ := vif_inv h
      simp at he
    · exact h.elim
  · exact h.elim
end
end Go.Sy
/-! Maps. -/
namespace Go.Sy
section
variable {X : Tabs} {K : Nat → Prop} {w0 : World} {E : Env} {st : St} {w : World} {Θ : Pred} {R : List Back} {tm : Tm} {k : Kt} {o : Oper}

theorem run_getO {P : Program} {r : Nat} {ob : Obj} (h : w.heap[r]? = some ob) (hn : ∀ a b c, ob ≠ .cells a b c) : (getObj r).run P w = .ok ob w := by
  simp only [getObj, Sem.run, h]
theorem run_getMap {P : Program} {r : Nat} {ms : Array MapEntry} {c : Nat} (h : w.heap[r]? = some (.map ms c)) : (getObj r).run P w = .ok (.map ms c) w := run_getO h (by intros; exact Obj.noConfusion)
theorem run_setMap {P : Program} {r : Nat} {ms : Array MapEntry} {c : Nat} (o : Obj) (h : w.heap[r]? = some (.map ms c)) : (setObj r o).run P w = .ok () (w.putObj r o) := by simp [setObj, Sem.run, h, World.putObj]
theorem mapOf_inv {r : Nat} {m : List (AV × AV × Nat) × Nat} (h : mapOf st r = some m) : st.x.objs.get r = some (.map m.1 m.2) := by
  obtain ⟨o, ho, h⟩ := obind_inv h
  cases o <;> cases h
  exact ho
theorem obj_at (hS : StRel X K w0 E st w) {r : Nat} {o : Ob} (h : st.x.objs.get r = some o) {id : Nat} (hm : E.m[r]? = some (some (id, 0))) : ∃ ob, w.heap[id]? = some ob ∧ ObRel X E o ob := by
  rcases (hS.objs r o h).2 with h1 | ⟨id', ob, h1, h2, h3⟩
  · rw [hm] at h1; cases h1
  · rw [hm] at h1; cases h1; exact ⟨ob, h2, h3⟩
theorem map_at (hS : StRel X K w0 E st w) {r : Nat} {es : List (AV × AV × Nat)} {c : Nat} (h : st.x.objs.get r = some (.map es c)) {id : Nat} (hm : E.m[r]? = some (some (id, 0))) : ∃ ms, w.heap[id]? = some (.map ms c) ∧ EntsRel E es ms.toList := by
  obtain ⟨ob, h1, h2⟩ := obj_at hS h hm
  cases ob <;> simp only [ObRel] at h2
  obtain ⟨rfl, h2⟩ := h2
  exact ⟨_, h1, h2⟩

theorem EntsRel.length : ∀ {l : List (AV × AV × Nat)} {r : List MapEntry}, EntsRel E l r → l.length = r.length
  | [], [], _ => rfl
  | _ :: _, _ :: _, ⟨_, h⟩ => by simp [EntsRel.length h]
  | [], _ :: _, h => h.elim
  | _ :: _, [], h => h.elim
theorem EntsRel.get : ∀ {l : List (AV × AV × Nat)} {r : List MapEntry}, EntsRel E l r → ∀ {i : Nat} {e : AV × AV × Nat}, l[i]? = some e → ∃ m, r[i]? = some m ∧ EntRel E e m
  | [], [], _, i, e, h => by simp at h
  | a :: l, b :: r, ⟨h1, h2⟩, i, e, h => by
    cases i with
    | zero => simp at h; subst h; exact ⟨b, rfl, h1⟩
    | succ i => simpa using EntsRel.get h2 (i := i) (by simpa using h)
  | [], _ :: _, h, _, _, _ => h.elim
  | _ :: _, [], h, _, _, _ => h.elim
theorem EntsRel.set : ∀ {l : List (AV × AV × Nat)} {r : List MapEntry}, EntsRel E l r → ∀ (i : Nat) {e : AV × AV × Nat} {m : MapEntry}, EntRel E e m → EntsRel E (l.set i e) (r.set i m)
  | [], [], _, _, _, _, _ => trivial
  | a :: l, b :: r, ⟨h1, h2⟩, i, e, m, h => by
    cases i with
    | zero => exact ⟨h, h2⟩
    | succ i => exact ⟨h1, EntsRel.set h2 i h⟩
  | [], _ :: _, h, _, _, _, _ => h.elim
  | _ :: _, [], h, _, _, _, _ => h.elim
theorem EntsRel.push : ∀ {l : List (AV × AV × Nat)} {r : List MapEntry}, EntsRel E l r → ∀ {e : AV × AV × Nat} {m : MapEntry}, EntRel E e m → EntsRel E (l ++ [e]) (r ++ [m])
  | [], [], _, _, _, h => ⟨h, trivial⟩
  | _ :: _, _ :: _, ⟨h1, h2⟩, _, _, h => ⟨h1, EntsRel.push h2 h⟩
  | [], _ :: _, h, _, _, _ => h.elim
  | _ :: _, [], h, _, _, _ => h.elim
theorem EntsRel.erase : ∀ {l : List (AV × AV × Nat)} {r : List MapEntry}, EntsRel E l r → ∀ (i : Nat), EntsRel E (l.eraseIdx i) (r.eraseIdx i)
  | [], [], _, _ => trivial
  | a :: l, b :: r, ⟨h1, h2⟩, i => by
    cases i with
    | zero => exact h2
    | succ i => exact ⟨h1, EntsRel.erase h2 i⟩
  | [], _ :: _, h, _ => h.elim
  | _ :: _, [], h, _ => h.elim

theorem bytesOf_beq {s t : List Nat} (hs : ∀ c ∈ s, c < 256) (ht : ∀ c ∈ t, c < 256) : (bytesOf s == bytesOf t) = leqL s t := by
  rw [beq_toListBytes, leqL_eq, bytesOf_toList, bytesOf_toList]
  by_cases e : s = t
  · subst e; simp
  · rw [decide_eq_false e, beq_eq_false_iff_ne]; exact fun h => e (map_u8_inj hs ht h)
theorem sameK_sound {kt : TypeDesc} {a b : AV} {r : Bool} (h : sameK kt a b = some r) {x y : Value} (hx : a.den E = some x) (hy : b.den E = some y) : Instr.sameNow kt x y = some r ∧ (r = true → ∀ n, Instr.sameBits n y x = true) := by
  unfold sameK at h
  split at h
  · split at h
    · rename_i j u k v
      obtain ⟨h1, h2⟩ := bif_some h
      have := kbeq_eq h1
      subst this
      cases h2
      obtain ⟨hu, rfl⟩ := den_int hx
      obtain ⟨hv, rfl⟩ := den_int hy
      have e : (sgn j u == sgn j v) = Nat.beq u v := by
        rw [beq_iff]
        by_cases e : u = v
        · subst e; simp
        · rw [decide_eq_false e]
          simpa using fun h => e (sgn_inj j hu hv h)
      refine ⟨by simp [Instr.sameNow, e], fun hr n => ?_⟩
      rw [beq_iff, decide_eq_true_eq] at hr
      subst hr
      cases n <;> simp [Instr.sameBits]
    · cases h
  · split at h
    · rename_i n s m t
      cases h
      obtain ⟨_, hs, rfl⟩ := den_str hx
      obtain ⟨_, ht, rfl⟩ := den_str hy
      refine ⟨by simp [Instr.sameNow, bytesOf_beq hs ht], fun hr n => ?_⟩
      rw [leqL_eq, decide_eq_true_eq] at hr
      subst hr
      have e : (bytesOf s == bytesOf s) = true := by rw [beq_toListBytes]; simp
      cases n <;> simp [Instr.sameBits, e]
    · cases h
  · split at h
    · rename_i c d
      cases h
      cases hx; cases hy
      refine ⟨by cases c <;> cases d <;> rfl, fun hr n => ?_⟩
      rw [bbeq_eq, decide_eq_true_eq] at hr
      subst hr
      cases n <;> simp [Instr.sameBits]
    · cases h
  · cases h
/-- The place of a key. -/
theorem findM_sound {kt : TypeDesc} {kv : AV} {key : Value} (hk : kv.den E = some key) : ∀ {es : List (AV × AV × Nat)} {ms : List MapEntry} {i : Nat} {r : Option (Nat × AV × Nat)}, EntsRel E es ms → findM kt kv es i = some r →
    ∃ r', Instr.findNow kt key ms i = some r' ∧ ((r = none ∧ r' = none) ∨ ∃ j e m, r = some (i + j, e.2) ∧ es[j]? = some e ∧ ms[j]? = some m ∧ EntRel E e m ∧ r' = some (i + j, m.val) ∧ ∀ n, Instr.sameBits n m.key key = true)
  | [], [], i, r, _, h => by cases h; exact ⟨none, rfl, .inl ⟨rfl, rfl⟩⟩
  | e :: es, m :: ms, i, r, ⟨h1, h2⟩, h => by
    change obind (sameK kt kv e.1) (fun b => Bool.rec (findM kt kv es (Nat.succ i)) (some (some (i, e.2))) b) = some r at h
    obtain ⟨b, hb, h⟩ := obind_inv h
    obtain ⟨h3, h4⟩ := sameK_sound hb hk h1.1
    cases b with
    | true =>
      cases h
      refine ⟨some (i, m.val), by simp [Instr.findNow, h3], .inr ⟨0, e, m, rfl, rfl, rfl, h1, rfl, h4 rfl⟩⟩
    | false =>
      obtain ⟨r', g1, g2⟩ := findM_sound hk h2 h
      refine ⟨r', by simp [Instr.findNow, h3, g1], ?_⟩
      rcases g2 with g2 | ⟨j, e', m', q1, q2, q3, q4, q5, q6⟩
      · exact .inl g2
      · exact .inr ⟨j + 1, e', m', by rw [q1]; simp; omega, by simpa using q2, by simpa using q3, q4, by rw [q5]; simp; omega, q6⟩
  | [], _ :: _, _, _, h, _ => h.elim
  | _ :: _, [], _, _, h, _ => h.elim

theorem keyD_inv {t : TypeId} {p : TypeDesc × TypeId} (hc : CxOK X K w0) (h : keyD X.cx.und t = some p) : ∃ kt, X.P.underlying t = some (.map kt p.2) ∧ X.P.underlying kt = some p.1 ∧ keyKind p.1 = true := by
  obtain ⟨d, hd, h⟩ := obind_inv h
  obtain ⟨q, hq, h⟩ := obind_inv h
  obtain ⟨kd, hkd, h⟩ := obind_inv h
  obtain ⟨h1, h2⟩ := bif_some h
  cases h2
  cases d <;> cases hq
  exact ⟨_, hc.und t _ hd, hc.und _ _ hkd, h1⟩
theorem run_checkKey {P : Program} {kt : TypeId} {d : TypeDesc} (hu : P.underlying kt = some d) (hk : keyKind d = true) (b : Bool) (key : Value) (w : World) : (Instr.checkKey b 10000 kt key).run P w = .ok () w := by
  have : Instr.checkKey b (9999 + 1) kt key = Instr.checkKey b 10000 kt key := rfl
  rw [← this, Instr.checkKey]
  cases d <;> first | (cases hk; done) | simp [run_underlying hu]
theorem run_findKey {P : Program} {kt : TypeId} {d : TypeDesc} (hu : P.underlying kt = some d) {key : Value} {es : List MapEntry} {r : Option (Nat × Value)} (h : Instr.findNow d key es 0 = some r) (w : World) : (Instr.findKey kt key es).run P w = .ok r w := by
  simp [Instr.findKey, run_underlying hu, h]
theorem run_keyStays {P : Program} {old new : Value} (h : Instr.sameBits 10000 old new = true) (w : World) : (Instr.keyThatStays old new).run P w = .ok new w := by
  simp [Instr.keyThatStays, h]
end
end Go.Sy
