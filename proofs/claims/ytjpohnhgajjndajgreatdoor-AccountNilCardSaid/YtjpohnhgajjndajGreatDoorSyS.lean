import Derived.Test.YtjpohnhgajjndajGreatDoorSyR
/-! Operations that leave memory as it is: all of them. -/
namespace Go.Sy
section
variable {X : Tabs} {K : Nat → Prop} {w0 : World} {E : Env} {st : St} {w : World} {Θ : Pred} {R : List Back} {tm : Tm} {k : Kt} {o : Oper}

theorem un_out {x : Operand} {b : BO} {run : Value → Sem Value} (hb : cO x = some b) (hx : x ∈ o.op.operands.toList) (hrun : ∀ ρ, execOp ρ o = (run (ρ x) >>= fun v => pure (Next.value v))) (h : Un1Out X.P Θ R E st k (ev tm b) run) : ValOut X Θ R E o tm st k := by
  obtain ⟨v, f, h1, h2, h3⟩ := h
  refine ⟨v, f, h1, h2, fun E' ρ hE hR => ?_⟩
  obtain ⟨z, hz, hr⟩ := h3 E' _ hE (hR.get hx hb)
  exact ⟨z, hz, fun w => by rw [hrun, Sem.run_bind, hr w]; rfl⟩
theorem xPick_out {c a b : Operand} {bc ba bb : BO} (hc : cO c = some bc) (ha : cO a = some ba) (hb : cO b = some bb) (ho : o.op = .pick c a b) (hO : Oks E tm) (h : (xPick tm st k ba bb (ev tm bc)).holds Θ E.va R) (hf : FOK E.va st.facts) : ValOut X Θ R E o tm st k := by
  have fin : ∀ {t : Bool} {f : List T} {y : Operand} {by_ : BO}, (if t then a else b) = y → cO y = some by_ → (k (ev tm by_) (st.withF f)).holds Θ E.va R → FOK E.va f → (∀ E' x, E.Le E' → (ev tm bc).den E' = some x → x = .bool t) → ValOut X Θ R E o tm st k := by
    intro t f y by_ hy hby hk hf ht
    refine ⟨_, f, hk, hf, fun E' ρ hE hR => ?_⟩
    have h1 := ht E' _ hE (hR.get (x := c) (by rw [ho]; simp [Op.operands]) hc)
    refine ⟨ρ y, hR.get (x := y) ?_ hby, fun w => ?_⟩
    · subst hy; rw [ho]; cases t <;> simp [Op.operands]
    · subst hy; simp only [execOp, ho, h1, asBool, Sem.run_bind, Sem.run_pure, Result.andThen_ok]; cases t <;> rfl
  unfold xPick at h
  split at h
  · rename_i hev
    exact fin (t := true) (f := st.facts) (y := a) rfl ha (by rw [withF_self]; exact h) hf (by rw [hev]; exact bool_den)
  · rename_i hev
    exact fin (t := false) (f := st.facts) (y := b) rfl hb (by rw [withF_self]; exact h) hf (by rw [hev]; exact bool_den)
  · rename_i c' hev
    have hoc := hO.ev hc
    rw [hev] at hoc
    obtain ⟨b', hb', hd⟩ := cnd_inv hoc
    obtain ⟨f, hf', h⟩ := brK_inv h hf hb'
    rcases h with ⟨e, h⟩ | ⟨e, h⟩
    · subst e; exact fin (t := true) (f := f) (y := a) rfl ha h hf' (by rw [hev]; exact hd)
    · subst e; exact fin (t := false) (f := f) (y := b) rfl hb h hf' (by rw [hev]; exact hd)
  · exact h.elim
theorem xNilc_out {x : Operand} {b : BO} (hb : cO x = some b) (ho : o.op = .nilCheck x) (h : (xNilc st k (ev tm b)).holds Θ E.va R) (hf : FOK E.va st.facts) : ValOut X Θ R E o tm st k := by
  have hx : x ∈ o.op.operands.toList := by rw [ho]; simp [Op.operands]
  unfold xNilc at h
  split at h
  · rename_i a hev
    refine .now h hf fun E' ρ hE hR => ?_
    have hx := hR.get hx hb
    rw [hev] at hx
    obtain ⟨ad, _, e0⟩ := den_ptr hx
    exact ⟨_, hx, fun w => by simp [execOp, ho, e0]⟩
  · rename_i f a c hev
    refine .now h hf fun E' ρ hE hR => ?_
    have hx := hR.get hx hb
    rw [hev] at hx
    obtain ⟨xs, ys, _, _, e0⟩ := den_func' hx
    exact ⟨_, hx, fun w => by simp [execOp, ho, e0]⟩
  · rename_i l hev
    refine .now h hf fun E' ρ hE hR => ?_
    have hx := hR.get hx hb
    rw [hev] at hx
    obtain ⟨id, _, e0⟩ := den_yld hx
    exact ⟨_, hx, fun w => by simp [execOp, ho, e0]⟩
  · exact h.elim
theorem xExt_out {x : Operand} {i : Nat} {b : BO} (hb : cO x = some b) (ho : o.op = .extract x i) (h : (xExt i st k (ev tm b)).holds Θ E.va R) (hf : FOK E.va st.facts) : ValOut X Θ R E o tm st k := by
  unfold xExt at h
  split at h
  · rename_i l hev
    obtain ⟨v, hv, h⟩ := outK_inv h
    rw [getL_eq] at hv
    refine .now h hf fun E' ρ hE hR => ?_
    have hx := hR.get (x := x) (by rw [ho]; simp [Op.operands]) hb
    rw [hev] at hx
    simp only [AV.den, Option.map_eq_some_iff] at hx
    obtain ⟨xs, hxs, e0⟩ := hx
    obtain ⟨y, h1, h2⟩ := denL_get hxs hv
    exact ⟨y, h1, fun w => by simp [execOp, ho, ← e0, Instr.extract, h2]⟩
  · exact h.elim
theorem xMkf_out {fn : Fn} {a c : Array Operand} {ba bc : List BO} (ha : cOs a.toList = some ba) (hc : cOs c.toList = some bc) (ho : o.op = .makeFunc fn a c) (h : (k (.func fn (evs tm ba) (evs tm bc)) st).holds Θ E.va R) (hf : FOK E.va st.facts) : ValOut X Θ R E o tm st k := by
  refine .now h hf fun E' ρ hE hR => ?_
  have e1 : (a.toList.map ρ).toArray = a.map ρ := by apply Array.ext'; simp
  have e2 : (c.toList.map ρ).toArray = c.map ρ := by apply Array.ext'; simp
  refine ⟨.func fn (a.map ρ) (c.map ρ), ?_, fun w => by simp [execOp, ho, Instr.makeFunc]⟩
  have h1 := cOs_inv (tm := tm) ha (E := E') (ρ := ρ) fun x hx => hR x (by rw [ho]; simp [Op.operands]; simp at hx; exact .inl hx)
  have h2 := cOs_inv (tm := tm) hc (E := E') (ρ := ρ) fun x hx => hR x (by rw [ho]; simp [Op.operands]; simp at hx; exact .inr hx)
  simp only [AV.den, h1, h2, e1, e2]
theorem xMki_out (hc : CxOK X K w0) {t : TypeId} {x : Operand} {b : BO} {d : TypeDesc} (hb : cO x = some b) (hd : X.cx.und.get t = some d) (hn : notIface d = true) (ho : o.op = .makeInterface t x) (h : (k (.iface t (ev tm b)) st).holds Θ E.va R) (hf : FOK E.va st.facts) : ValOut X Θ R E o tm st k := by
  refine .now h hf fun E' ρ hE hR => ?_
  have hx := hR.get (x := x) (by rw [ho]; simp [Op.operands]) hb
  refine ⟨.iface t (ρ x), by simp [AV.den, hx], fun w => ?_⟩
  simp only [execOp, ho, Instr.makeInterface, Sem.run_bind, hc.und' hd, Result.andThen_ok]
  cases d <;> first | rfl | (cases hn)
theorem xS2a_out (hc : CxOK X K w0) {t e : TypeId} {n : Nat} {x : Operand} {b : BO} (hb : cO x = some b) (hd : X.cx.und.get t = some (.array n e)) (ho : o.op = .sliceToArrayPointer t x) (h : (xS2a n st k (ev tm b)).holds Θ E.va R) (hf : FOK E.va st.facts) : ValOut X Θ R E o tm st k := by
  unfold xS2a at h
  split at h
  · rename_i a m c hev
    obtain ⟨hcond, h⟩ := vif_inv h
    rw [ble_iff, decide_eq_true_eq] at hcond
    refine .now h hf fun E' ρ hE hR => ?_
    have hx := hR.get (x := x) (by rw [ho]; simp [Op.operands]) hb
    rw [hev] at hx
    have hlt : ¬ m < n := by omega
    rcases den_slice_inv hx with ⟨rfl, _, _, e0⟩ | ⟨p, ad, cp, rfl, had, _, _, e0⟩
    · rename_i hm _
      refine ⟨.pointer none, rfl, fun w => ?_⟩
      subst hm
      simp [execOp, ho, e0, Instr.arrayAt, hc.und' hd, show ¬ 0 < n by omega]
    · exact ⟨.pointer (some ad), den_ptr_of had, fun w => by simp [execOp, ho, e0, Instr.arrayAt, hc.und' hd, hlt]⟩
  · exact h.elim
/-- A type's first value. -/
theorem zeroV_sound (hc : CxOK X K w0) {t : TypeId} {z : AV} (h : zeroV X.cx.und X.cx.size X.cx.zero t = some z) : ∃ y, (∀ E, z.den E = some y) ∧ ∀ w, (zeroValue t).run X.P w = .ok y w := by
  obtain ⟨g, hg, h⟩ := obind_inv h
  obtain ⟨l, hl, h⟩ := obind_inv h
  obtain ⟨i, v, h1, h2, h3, h4, h5, h6⟩ := hc.zero t l hl
  have hrun : ∀ w, (zeroValue t).run X.P w = .ok v w := fun w => by simp [zeroValue, typeInfo, h1, h2, Sem.run, program]
  obtain ⟨d, hd, hg⟩ := obind_inv hg
  have hagg := h6 d hd
  refine ⟨v, ?_, hrun⟩
  cases e : isAggD d with
  | true =>
    rw [e, bif_true] at hg
    obtain ⟨n, _, hg⟩ := obind_inv hg
    cases hg
    cases h
    rw [e] at hagg
    cases v <;> first | (cases hagg; done) | skip
    intro E
    have := h5 E
    simp only [Value.cells] at this
    simp [AV.den, this]
  | false =>
    rw [e, bif_false] at hg
    cases hg
    change getL 0 l = some z at h
    rw [getL_eq] at h
    rw [e] at hagg
    intro E
    obtain ⟨y, g1, g2⟩ := denL_get (h5 E) h
    have : v.cells = #[v] := by cases v <;> first | (cases hagg; done) | rfl
    rw [this] at g2
    simp at g2
    rw [g1, g2]
theorem xTass_out (hc : CxOK X K w0) {t xt : TypeId} {x : Operand} {ok : Bool} {z : AV} {d : TypeDesc} {b : BO} (hb : cO x = some b) (hd : X.cx.und.get t = some d) (hn : notIface d = true) (hz : zeroV X.cx.und X.cx.size X.cx.zero t = some z) (ho : o.op = .typeAssert x xt t ok)
    (h : (xTass t z ok st k (ev tm b)).holds Θ E.va R) (hf : FOK E.va st.facts) : ValOut X Θ R E o tm st k := by
  obtain ⟨y, hy, hzr⟩ := zeroV_sound hc hz
  have hx : x ∈ o.op.operands.toList := by rw [ho]; simp [Op.operands]
  have hex : ∀ ρ w, (execOp ρ o).run X.P w = ((Instr.typeAssert (ρ x) xt t ok) >>= fun v => pure (Next.value v) : Sem Next).run X.P w := fun ρ w => by simp only [execOp, ho]
  have hnil : ∀ w, (Instr.typeAssert .nilIface xt t true).run X.P w = .ok (.tuple #[y, .bool false]) w := by
    intro w
    unfold Instr.typeAssert
    simp only [Sem.run_bind, hc.und' hd, Result.andThen_ok]
    cases d <;> first | (cases hn; done) | (simp [hzr])
  have hhit : ∀ w v, (Instr.typeAssert (.iface t v) xt t ok).run X.P w = .ok (if ok then .tuple #[v, .bool true] else v) w := by
    intro w v
    unfold Instr.typeAssert
    simp only [Sem.run_bind, hc.und' hd, Result.andThen_ok]
    cases d <;> first | (cases hn; done) | simp
  have hmiss : ∀ w u v, u ≠ t → (Instr.typeAssert (.iface u v) xt t true).run X.P w = .ok (.tuple #[y, .bool false]) w := by
    intro w u v hne
    unfold Instr.typeAssert
    simp only [Sem.run_bind, hc.und' hd, Result.andThen_ok]
    cases d <;> first | (cases hn; done) | (simp [hne, hzr])
  have htup : ∀ E', (AV.tuple [z, .bool false]).den E' = some (.tuple #[y, .bool false]) := fun E' => by
    have : denL E' [z, .bool false] = some [y, .bool false] := denL_cons.2 ⟨_, _, hy E', denL_cons.2 ⟨_, _, rfl, rfl, rfl⟩, rfl⟩
    simp [AV.den, this]
  unfold xTass at h
  split at h
  · rename_i hev
    obtain ⟨hok, h⟩ := vif_inv h
    subst hok
    refine .now h hf fun E' ρ hE hR => ⟨_, htup E', fun w => ?_⟩
    have hx := hR.get hx hb
    rw [hev] at hx
    simp only [AV.den, Option.some.injEq] at hx
    rw [hex, ← hx]; simp [hnil w]
  · rename_i u v hev
    rw [beq_iff] at h
    rcases bif_holds h with ⟨e, hh⟩ | ⟨e, hh⟩
    · have hut := of_decide_eq_true e
      clear e h
      subst hut
      rcases boolRec hh with ⟨hok, h2⟩ | ⟨hok, h2⟩
      · subst hok
        refine .now h2 hf fun E' ρ hE hR => ?_
        have hx := hR.get hx hb
        rw [hev] at hx
        obtain ⟨y', h1, e0⟩ := den_iface' hx
        have : denL E' [v, .bool true] = some [y', .bool true] := denL_cons.2 ⟨_, _, h1, denL_cons.2 ⟨_, _, rfl, rfl, rfl⟩, rfl⟩
        refine ⟨.tuple #[y', .bool true], by simp [AV.den, this], fun w => ?_⟩
        rw [hex, e0]; simp [hhit w y']
      · subst hok
        refine .now h2 hf fun E' ρ hE hR => ?_
        have hx := hR.get hx hb
        rw [hev] at hx
        obtain ⟨y', h1, e0⟩ := den_iface' hx
        refine ⟨y', h1, fun w => ?_⟩
        rw [hex, e0]; simp [hhit w y']
    · obtain ⟨hok, h2⟩ := vif_inv hh
      clear h hh
      subst hok
      refine .now h2 hf fun E' ρ hE hR => ⟨_, htup E', fun w => ?_⟩
      have hx := hR.get hx hb
      rw [hev] at hx
      obtain ⟨y', h1, e0⟩ := den_iface' hx
      rw [hex, e0]; simp [hmiss w u y' (of_decide_eq_false e)]
  · exact h.elim

/-! ### Built-in functions -/
theorem lenK_inv {n : Nat} (h : (lenK n st k).holds Θ E.va R) : n < 9223372036854775808 ∧ (k (.int .i64 n) st).holds Θ E.va R := by
  obtain ⟨h1, h2⟩ := vif_inv h
  rw [blt_iff, decide_eq_true_eq] at h1
  exact ⟨h1, h2⟩
theorem run_builtin {P : Program} {ρ : Operand → Value} {b : Builtin} {args : Array Operand} {tys : Array TypeId} {s : Sem Value} (ho : o.op = .call ⟨.builtin b, args, tys⟩) (hb : ∀ consts, Go.builtin b tys o.type consts (args.map ρ) = (s >>= fun v => pure (Next.value v))) (w : World) :
    (execOp ρ o).run P w = (s >>= fun v => pure (Next.value v) : Sem Next).run P w := by
  simp only [execOp, ho, resolve, Sem.run_bind, Sem.run_pure, Result.andThen_ok, invoke, hb]
theorem ops_call {b : Builtin} {args : Array Operand} {tys : Array TypeId} (ho : o.op = .call ⟨.builtin b, args, tys⟩) : o.op.operands.toList = args.toList := by
  rw [ho]; simp [Op.operands, Call.operands]
theorem cOs_get : ∀ {l : List Operand} {bs : List BO} {i : Nat} {b : BO}, cOs l = some bs → bs[i]? = some b → ∃ x, l[i]? = some x ∧ cO x = some b
  | [], bs, i, b, h, hb => by cases h; simp at hb
  | x :: l, bs, i, b, h, hb => by
    change obind (cO x) (fun b => obind (cOs l) fun r => some (b :: r)) = some bs at h
    obtain ⟨c, hc, h⟩ := obind_inv h
    obtain ⟨r, hr, h⟩ := obind_inv h
    cases h
    cases i with
    | zero => simp at hb; subst hb; exact ⟨x, by simp, hc⟩
    | succ i => obtain ⟨y, h1, h2⟩ := cOs_get hr (i := i) (by simpa using hb); exact ⟨y, by simpa using h1, h2⟩
/-- One argument. -/
theorem arg_get {b : Builtin} {args : Array Operand} {tys : Array TypeId} {bs : List BO} (ho : o.op = .call ⟨.builtin b, args, tys⟩) (hb : cOs args.toList = some bs) {i : Nat} {bx : BO} (hx : getL i bs = some bx) :
    ∃ x, args[i]? = some x ∧ cO x = some bx ∧ ∀ E' ρ, Rd E' tm ρ o.op.operands.toList → (ev tm bx).den E' = some (ρ x) ∧ (args.map ρ)[i]? = some (ρ x) := by
  rw [getL_eq] at hx
  obtain ⟨x, h1, h2⟩ := cOs_get hb hx
  have h1' : args[i]? = some x := by simpa using h1
  exact ⟨x, h1', h2, fun E' ρ hR => ⟨hR.get (by rw [ops_call ho]; exact List.mem_of_getElem? h1) h2, by simp [h1']⟩⟩
theorem tys_get {tys : Array TypeId} {i : Nat} {t : TypeId} (h : getL i tys.toList = some t) : tys[i]? = some t := by rw [getL_eq] at h; simpa using h
theorem cLen_out (hc : CxOK X K w0) {args : Array Operand} {tys : Array TypeId} {bs : List BO} {t : TypeId} {d : TypeDesc} {n : Option Nat} {bx : BO} (hcap : Bool) (ho : o.op = .call ⟨.builtin (if hcap then .cap else .len), args, tys⟩) (hb : cOs args.toList = some bs) (ht : getL 0 tys.toList = some t) (hx : getL 0 bs = some bx) (hd : X.cx.und.get t = some d)
    (hn : lenN X.cx.und d = some (some n)) (hs : hcap = true → isStrD d = false) (h : (Option.rec ((if hcap then xCap st k (ev tm bx) else xLen (isStrD d) st k (ev tm bx))) (fun n => lenK n st k) n : VC).holds Θ E.va R) (hf : FOK E.va st.facts) : ValOut X Θ R E o tm st k := by
  obtain ⟨x, hx1, hx2, hx3⟩ := arg_get (tm := tm) ho hb hx
  have ht1 := tys_get ht
  have hu := hc.und t d hd
  have fin : ∀ {v : AV} {s : (Operand → Value) → Sem Value}, (∀ ρ consts, Go.builtin (if hcap then .cap else .len) tys o.type consts (args.map ρ) = (s ρ >>= fun v => pure (Next.value v))) → (k v st).holds Θ E.va R → (∀ E' ρ, E.Le E' → Rd E' tm ρ o.op.operands.toList → ∃ y, v.den E' = some y ∧ ∀ w, (s ρ).run X.P w = .ok y w) → ValOut X Θ R E o tm st k := by
    intro v s hs hk hall
    refine .now hk hf fun E' ρ hE hR => ?_
    obtain ⟨y, h1, h2⟩ := hall E' ρ hE hR
    exact ⟨y, h1, fun w => by rw [run_builtin ho (hs ρ)]; simp [h2 w]⟩
  cases n with
  | some n =>
    obtain ⟨hlt, h⟩ := lenK_inv h
    have hres : ∀ ρ w, ((if hcap then Builtin.cap_ tys o.type (args.map ρ) else Builtin.len_ tys o.type (args.map ρ))).run X.P w = .ok (goInt n) w := by
      intro ρ w
      have e1 : (args.map ρ)[0]? = some (ρ x) := by simp [hx1]
      unfold lenN at hn
      split at hn
      · cases hn
      · cases hn
      · cases hn
      · cases hn
        cases hcap <;> simp [Builtin.cap_, Builtin.len_, ht1, e1, run_underlying hu]
      · rename_i p
        obtain ⟨d2, hd2, hn⟩ := obind_inv hn
        split at hn
        · cases hn
          cases hcap <;> simp [Builtin.cap_, Builtin.len_, ht1, e1, run_underlying hu, hc.und' hd2]
        · cases hn
      · cases hn
    refine fin (s := fun ρ => if hcap then Builtin.cap_ tys o.type (args.map ρ) else Builtin.len_ tys o.type (args.map ρ)) (fun ρ consts => by cases hcap <;> rfl) h fun E' ρ hE hR => ⟨_, den_i64 hlt, fun w => hres ρ w⟩
  | none =>
    have hdd : (∃ e, d = .slice e) ∨ d = .string := by
      unfold lenN at hn
      split at hn
      · exact .inl ⟨_, rfl⟩
      · exact .inr rfl
      · cases hn
      · cases hn
      · obtain ⟨d2, hd2, hn⟩ := obind_inv hn
        split at hn <;> cases hn
      · cases hn
    have go : ∀ {m : Nat}, m < 9223372036854775808 → (k (.int .i64 m) st).holds Θ E.va R → (∀ E' ρ, E.Le E' → Rd E' tm ρ o.op.operands.toList → ∀ w, (if hcap then Builtin.cap_ tys o.type (args.map ρ) else Builtin.len_ tys o.type (args.map ρ)).run X.P w = .ok (goInt m) w) → ValOut X Θ R E o tm st k := by
      intro m hm hk hall
      exact fin (s := fun ρ => if hcap then Builtin.cap_ tys o.type (args.map ρ) else Builtin.len_ tys o.type (args.map ρ)) (fun ρ consts => by cases hcap <;> rfl) hk fun E' ρ hE hR => ⟨_, den_i64 hm, hall E' ρ hE hR⟩
    cases hcap with
    | true =>
      have h : (xCap st k (ev tm bx)).holds Θ E.va R := h
      unfold xCap at h
      split at h
      · rename_i a n c hev
        obtain ⟨hlt, h⟩ := lenK_inv h
        refine go hlt h fun E' ρ hE hR w => ?_
        obtain ⟨hx, hxa⟩ := hx3 E' ρ hR
        have hsl : ∃ e, d = .slice e := by
          rcases hdd with h | h
          · exact h
          · have := hs rfl; rw [h] at this; cases this
        obtain ⟨e, rfl⟩ := hsl
        rw [hev] at hx
        rcases den_slice_inv hx with ⟨_, _, e2, e0⟩ | ⟨_, _, _, _, _, e2, _, e0⟩
        · cases e2; simp [Builtin.cap_, ht1, hxa, run_underlying hu, e0]
        · cases e2; simp [Builtin.cap_, ht1, hxa, run_underlying hu, e0]
      · exact h.elim
    | false =>
      have h : (xLen (isStrD d) st k (ev tm bx)).holds Θ E.va R := h
      have sl : isStrD d = false → ∃ e, d = .slice e := fun hf => by
        rcases hdd with h | h
        · exact h
        · rw [h] at hf; cases hf
      unfold xLen at h
      split at h
      · rename_i a n c hev
        obtain ⟨hst, h1⟩ := vif_inv h
        obtain ⟨hlt, h2⟩ := lenK_inv h1
        obtain ⟨e, rfl⟩ := sl (by simpa using hst)
        refine go hlt h2 fun E' ρ hE hR w => ?_
        obtain ⟨hx, hxa⟩ := hx3 E' ρ hR
        rw [hev] at hx
        obtain ⟨ad, cp, e0, _⟩ := den_slice' hx
        simp [Builtin.len_, ht1, hxa, run_underlying hu, e0]
      · rename_i a i n d' hev
        obtain ⟨hst, h1⟩ := vif_inv h
        obtain ⟨e, rfl⟩ := sl (by simpa using hst)
        refine go (m := 0) (by omega) h1 fun E' ρ hE hR w => ?_
        obtain ⟨hx, hxa⟩ := hx3 E' ρ hR
        rw [hev] at hx
        obtain ⟨ad, cp, _, _, _, e0⟩ := den_sl0 hx
        simp [Builtin.len_, ht1, hxa, run_underlying hu, e0]
      · rename_i n s hev
        obtain ⟨hst, h1⟩ := vif_inv h
        obtain ⟨hlt, h2⟩ := lenK_inv h1
        have hds : d = .string := by
          rcases hdd with ⟨e, h⟩ | h
          · rw [h] at hst; cases hst
          · exact h
        subst hds
        refine go hlt h2 fun E' ρ hE hR w => ?_
        obtain ⟨hx, hxa⟩ := hx3 E' ρ hR
        rw [hev] at hx
        obtain ⟨h1, h2, e0⟩ := den_str hx
        simp [Builtin.len_, ht1, hxa, run_underlying hu, e0, bytesOf_size, h1]
      · exact h.elim
theorem xMinmax_out {args : Array Operand} {tys : Array TypeId} {bs : List BO} {mx : Bool} (ho : o.op = .call ⟨.builtin (if mx then .max else .min), args, tys⟩) (hb : cOs args.toList = some bs) (hO : Oks E tm) (h : (xMinmax mx st k (evs tm bs)).holds Θ E.va R) (hf : FOK E.va st.facts) : ValOut X Θ R E o tm st k := by
  have hoks : ∀ {l : List Operand} {bs : List BO}, cOs l = some bs → ∀ u ∈ evs tm bs, okv E u := by
    intro l
    induction l with
    | nil => intro bs h u hu; cases h; cases hu
    | cons x l ih =>
      intro bs h u hu
      change obind (cO x) (fun b => obind (cOs l) fun r => some (b :: r)) = some bs at h
      obtain ⟨c, hc, h⟩ := obind_inv h
      obtain ⟨r, hr, h⟩ := obind_inv h
      cases h
      change u ∈ ev tm c :: evs tm r at hu
      cases hu with
      | head => exact hO.ev hc
      | tail _ hu => exact ih hr u hu
  have hoks := hoks hb
  unfold xMinmax at h
  split at h
  · exact h.elim
  · rename_i v l hev
    rw [hev] at hoks
    obtain ⟨u, f, h1, hf', h2⟩ := mmL_inv (P := X.P) h hf (hoks v (by simp)) (fun y hy => hoks y (List.mem_cons_of_mem _ hy))
    refine ⟨u, f, h1, hf', fun E' ρ hE hR => ?_⟩
    rw [ops_call ho] at hR
    have hd := cOs_inv (tm := tm) hb hR
    rw [hev] at hd
    obtain ⟨x, xs, hx, hxs, hmap⟩ := denL_cons.1 hd
    obtain ⟨z, hz, hrun⟩ := h2 E' x xs hE hx hxs
    refine ⟨z, hz, fun w => ?_⟩
    have e1 : (args.map ρ).toList = x :: xs := by rw [← hmap]; simp
    rw [run_builtin (s := if mx then Builtin.max_ tys o.type (args.map ρ) else Builtin.min_ tys o.type (args.map ρ)) ho (fun consts => by cases mx <;> rfl)]
    have hmm : (if mx then Builtin.max_ tys o.type (args.map ρ) else Builtin.min_ tys o.type (args.map ρ)).run X.P w = .ok z w := by
      have := hrun w
      cases mx
      · simp only [Bool.false_eq_true, if_false, Builtin.min_, e1]; exact this
      · simp only [if_true, Builtin.max_, e1]; exact this
    rw [Sem.run_bind, hmm]; rfl

/-! ### Conversions that only look at values -/
theorem run_conv {P : Program} {ρ : Operand → Value} {s d : TypeId} {x : Operand} (ho : o.op = .convert s d x) (w : World) : (execOp ρ o).run P w = ((convert s d (ρ x)) >>= fun v => pure (Next.value v) : Sem Next).run P w := by simp only [execOp, ho]
theorem conv_int {P : Program} {s d : TypeId} {sd : TypeDesc} {kd j : IntKind} {n : Int} (hs : P.underlying s = some sd) (hd : P.underlying d = some (.int kd)) (w : World) : (convert s d (.int j n)).run P w = .ok (.int kd (kd.wrap n)) w := by
  unfold convert
  simp only [Sem.run_bind, run_underlying hs, run_underlying hd, Result.andThen_ok]
  cases sd <;> simp [Conv.intToInt]
theorem encode_small {c : Nat} (h : c < 128) : Utf8.encode (c : Int) = bytesOf [c] := by
  unfold Utf8.encode
  have hv : Utf8.valid (c : Int) = true := by unfold Utf8.valid; simp; omega
  simp only [hv, if_true, Int.toNat_natCast]
  rw [if_pos h]; rfl
theorem conv1_out (hc : CxOK X K w0) {s d : TypeId} {sd dd : TypeDesc} {x : Operand} {b : BO} (hb : cO x = some b) (hs : X.cx.und.get s = some sd) (hd : X.cx.und.get d = some dd) (ho : o.op = .convert s d x) (hne : isEffC sd dd = false) (hO : Oks E tm)
    (h : (conv1 X.cx st k (ebOf X.cx.und sd dd) (Nat.beq s d) dd (ev tm b)).holds Θ E.va R) (hf : FOK E.va st.facts) : ValOut X Θ R E o tm st k := by
  have hx : x ∈ o.op.operands.toList := by rw [ho]; simp [Op.operands]
  have hus := hc.und s sd hs
  have hud := hc.und d dd hd
  have hov := hO.ev hb
  unfold conv1 at h
  split at h
  · rename_i kd
    split at h
    · rename_i j u hev
      refine .now h hf fun E' ρ hE hR => ?_
      have hx := hR.get hx hb
      rw [hev] at hx
      obtain ⟨hu, e0⟩ := den_int hx
      obtain ⟨h1, h2⟩ := convU_eq j kd hu
      exact ⟨_, den_int_of h1, fun w => by rw [run_conv ho, e0, Sem.run_bind, conv_int hus hud, h2]; rfl⟩
    · rename_i j t hev
      rw [hev] at hov
      obtain ⟨n, h1, h2, h3⟩ := toT_inv (v := .sym j t) rfl hov
      have hall : ∀ E' ρ, E.Le E' → Rd E' tm ρ o.op.operands.toList → ∀ w, (execOp ρ o).run X.P w = .ok (.value (.int kd (kd.wrap n))) w := fun E' ρ hE hR w => by
        have hx := hR.get hx hb
        rw [hev] at hx
        rw [run_conv ho, h3 E' _ hE hx, Sem.run_bind, conv_int hus hud]; rfl
      rcases bif_holds h with ⟨e, h⟩ | ⟨e, h⟩
      · have e := kbeq_eq e
        refine .now h hf fun E' ρ hE hR => ⟨_, den_sym_of (ev_mono hE.va h1) (by rw [← e]; exact h2), fun w => ?_⟩
        have := hall E' ρ hE hR w
        rw [← e, wf_wrap h2] at this
        rw [← e]; exact this
      · refine .now h hf fun E' ρ hE hR => ⟨_, den_sym_of (t := .conv kd t) (by simp only [T.ev, ev_mono hE.va h1]) (wrap_wf _ _), hall E' ρ hE hR⟩
    · exact h.elim
  · split at h
    · rename_i n s' hev
      refine .now h hf fun E' ρ hE hR => ?_
      have hx := hR.get hx hb
      rw [hev] at hx
      obtain ⟨_, _, e0⟩ := den_str hx
      refine ⟨_, hx, fun w => ?_⟩
      rw [run_conv ho, e0]
      unfold convert
      simp only [Sem.run_bind, run_underlying hus, run_underlying hud, Result.andThen_ok]
      cases sd <;> simp
    · rename_i j u hev
      rw [hev] at hov
      obtain ⟨u', hu', h⟩ := vbind_inv h
      obtain ⟨hlt, h⟩ := vif_inv h
      obtain ⟨j', e1, e2, _⟩ := natOf_inv hu' hov
      cases e1
      rw [blt_iff, decide_eq_true_eq] at hlt
      refine .now h hf fun E' ρ hE hR => ?_
      have hx := hR.get hx hb
      rw [hev] at hx
      obtain ⟨_, e0⟩ := den_int hx
      refine ⟨_, den_str_of (n := 1) (s := [u]) rfl (by intro c hc; rw [List.mem_singleton.1 hc]; omega), fun w => ?_⟩
      rw [run_conv ho, e0, e2]
      unfold convert
      simp only [Sem.run_bind, run_underlying hus, run_underlying hud, Result.andThen_ok]
      cases sd <;> simp [Conv.intToString, encode_small hlt]
    · obtain ⟨he, h⟩ := vif_inv h
      exfalso
      cases sd <;> first | (cases hne; done) | (cases he; done)
  · cases sd <;> cases hne
  · exact h.elim
end
end Go.Sy
