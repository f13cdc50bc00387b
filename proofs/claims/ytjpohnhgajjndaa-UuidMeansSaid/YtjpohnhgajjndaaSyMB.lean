import Derived.Test.YtjpohnhgajjndaaSyMA
/-! Operations that may come late: a mark; all of them together. -/
namespace Go.Sy
section
variable {X : Tabs} {K : Nat → Prop} {w0 : World} {E : Env} {st : St} {w : World} {Θ : Pred} {R : List Back} {tm : Tm} {k : Kt} {o : Oper}

theorem freeze_other (w : World) (a : Addr) (n : Nat) {i : Nat} (h : i ≠ a.block) : (w.freeze a n).heap[i]? = w.heap[i]? := by
  unfold World.freeze
  split
  · rfl
  · simp only [Array.getElem?_modify]; rw [if_neg (by omega)]
theorem freeze_same (w : World) (id m : Nat) {cs : Array Value} {el : TypeId} {fr : Nat × Nat} (h : w.heap[id]? = some (.cells cs el fr)) :
    ∃ fr', (w.freeze ⟨id, m, none⟩ 1).heap[id]? = some (.cells cs el fr') ∧ ((fr.1 = fr.2 ∨ m ≤ fr.1) → m ≤ fr'.1) := by
  obtain ⟨lo, hi⟩ := fr
  refine ⟨if lo == hi then (m, m + 1) else (min lo m, max hi (m + 1)), ?_, fun hfr => ?_⟩
  · simp [World.freeze, Array.getElem?_modify, h]
  · by_cases e : lo = hi
    · simp [e]
    · have : (lo == hi) = false := by simpa using e
      rw [this]
      rcases hfr with h | h
      · exact absurd h e
      · simp only [Bool.false_eq_true, if_false]; simp only at h; omega
theorem freeze_size (w : World) (a : Addr) (n : Nat) : (w.freeze a n).heap.size = w.heap.size := by
  unfold World.freeze
  split
  · rfl
  · simp
theorem StRel.freeze (hS : StRel X K w0 E st w) {id : Nat} (hid : ¬ K id) {cs : Array Value} {el : TypeId} {fr : Nat × Nat} (hh : w.heap[id]? = some (.cells cs el fr)) : StRel X K w0 E st (w.freeze ⟨id, cs.size, none⟩ 1) := by
  have hoth : ∀ i, i ≠ id → (w.freeze ⟨id, cs.size, none⟩ 1).heap[i]? = w.heap[i]? := fun i hi => freeze_other w _ 1 hi
  obtain ⟨fr', h1, h2⟩ := freeze_same w id cs.size hh
  refine ⟨hS.n_eq, hS.c_eq, hS.z_eq, hS.a_eq, hS.o_eq, hS.klt, ?_, fun k p hp => by rw [freeze_size]; exact hS.ids k p hp, hS.lt, fun k b hk => ?_, hS.fams, hS.livelt, hS.lives, fun k o hk => ?_, hS.oinj, hS.apart, hS.facts, hS.famh, hS.liveh⟩
  · have hos : (w.freeze ⟨id, cs.size, none⟩ 1).os = w.os ∧ (w.freeze ⟨id, cs.size, none⟩ 1).tape = w.tape ∧ (w.freeze ⟨id, cs.size, none⟩ 1).output = w.output := by
      unfold World.freeze; split <;> exact ⟨rfl, rfl, rfl⟩
    exact hS.kept.trans ⟨hos.1, hos.2.1, hos.2.2, by rw [freeze_size]; exact Nat.le_refl _, fun j hj => hoth j (fun e => hid (e ▸ hj))⟩
  · rcases hS.blks k b hk with h | ⟨id2, sh, cs2, el2, fr2, hm, hh2, hr⟩
    · exact .inl h
    · by_cases e : id2 = id
      · subst e
        rw [hh] at hh2
        cases hh2
        exact .inr ⟨id2, sh, cs, el, fr', hm, h1, ⟨.inr (h2 hr.free), hr.room, hr.bnd, hr.cap, hr.cells⟩⟩
      · exact .inr ⟨id2, sh, cs2, el2, fr2, hm, by rw [hoth _ e]; exact hh2, hr⟩
  · obtain ⟨g1, g2⟩ := hS.objs k o hk
    refine ⟨g1, g2.imp (fun h => h) fun ⟨id2, ob, g3, g4, g5⟩ => ⟨id2, ob, g3, ?_, g5⟩⟩
    rw [hoth]; exact g4
    rintro rfl
    rw [hh] at g4; cases g4
    exact g5.notCells
theorem mark_out (hc : CxOK X K w0) (hS : StRel X K w0 E st w) (hO : Oks E tm) {bo : BOp} {s : TypeId} {sd : TypeDesc} {x : Operand} {b : BO} {j off n : Nat} {c : Cap} (hb : cO x = some b) (hs : X.cx.und.get s = some sd) (hev : ev tm b = .slice (some ⟨.r j, off⟩) n c) (heb : ebOf X.cx.und sd sd = true) (ho : o.op = .convert s s x)
    (h : (k (.slice (some ⟨.r j, off⟩) n c) st).holds Θ E.va R) (hbo : ∀ n a, bo ≠ .load n a := by intro _ _ hh; cases hh) : MovOut X K w0 Θ R E o tm bo st w k := by
  have hok := hO.ev hb
  rw [hev] at hok
  refine ⟨_, st, E, h, .refl _, hS, .refl _ _, hok, fun _ _ h => h, .refl E, .of hbo, fun E'' st'' w'' ρ hE _ hS'' hR _ => ?_⟩
  have hx := hR.get (x := x) (by rw [ho]; simp [Op.operands]) hb
  rw [hev] at hx
  have hsl : ∃ e, sd = .slice e ∧ X.P.underlying e = some (.int .u8) := by
    cases sd <;> first | (cases heb; done) | skip
    rename_i e
    have h8 : isU8 X.cx.und e = true := heb
    unfold isU8 at h8
    cases hd : X.cx.und.get e with
    | none => rw [hd] at h8; cases h8
    | some d =>
      rw [hd] at h8
      refine ⟨e, rfl, ?_⟩
      have := hc.und e d hd
      cases d <;> first | (cases h8; done) | skip
      rename_i kd
      cases kd <;> first | (cases h8; done) | exact this
  obtain ⟨e, rfl, he⟩ := hsl
  have hu := hc.und s _ hs
  rcases den_slice_inv hx with ⟨e1, _⟩ | ⟨p, ad, cp, e1, had, _, _, e0⟩
  · cases e1
  · cases e1
    obtain ⟨q, hq, rfl⟩ := aden_r had
    have hex : ∀ w2, (markStringish ⟨q.1, off + q.2, none⟩).run X.P w'' = .ok () w2 → (execOp ρ o).run X.P w'' = .ok (.value (.slice (some ⟨q.1, off + q.2, none⟩) n cp)) w2 := by
      intro w2 hw2
      rw [run_conv ho, e0]
      unfold convert
      simp [run_underlying hu, run_underlying he, hw2]
    cases hsh : w''.shape? q.1 with
    | none =>
      refine ⟨E'', _, w'', .refl _, rfl, hex w'' ?_, hS'', hx.trans (by rw [e0]), fun _ _ h => h⟩
      simp [markStringish, hsh]
    | some tn =>
      have hcells : ∃ cs el fr, w''.heap[q.1]? = some (.cells cs el fr) ∧ tn = (el, cs.size) := by
        unfold World.shape? at hsh
        split at hsh
        · rename_i cs el fr hh; cases hsh; exact ⟨cs, el, fr, hh, rfl⟩
        · cases hsh
      obtain ⟨cs, el, fr, hh, rfl⟩ := hcells
      refine ⟨E'', _, w''.freeze ⟨q.1, cs.size, none⟩ 1, .refl _, rfl, hex _ ?_, hS''.freeze (hS''.ids _ _ hq).1 hh, hx.trans (by rw [e0]), fun _ _ h => h⟩
      simp [markStringish, hsh]

theorem getL_field {fa : Array Field} {f : Nat} {fl : Field} (h : getL f fa.toList = some fl) : fa[f]? = some fl := by rw [getL_eq] at h; simpa using h
theorem builtin_mov (hc : CxOK X K w0) (hS : StRel X K w0 E st w) (hO : Oks E tm) {cxr : Rec} {b : BOp} {bi : Builtin} {args : Array Operand} {tys : Array TypeId} {bs : List BO} (ho : o.op = .call ⟨.builtin bi, args, tys⟩) (hbs : cOs args.toList = some bs)
    (hb : cBuiltin X.cx.und X.cx.size X.cx.zero tys.toList bs o.type bi = some b) (he : isEff b = false) (h : (xop b X.cx cxr tm st k).holds Θ E.va R) : MovOut X K w0 Θ R E o tm b st w k := by
  have hf := hS.facts
  cases bi <;> simp only [cBuiltin] at hb
  case len =>
    obtain ⟨t, ht, hb⟩ := obind_inv hb
    obtain ⟨bx, hx, hb⟩ := obind_inv hb
    obtain ⟨d, hd, hb⟩ := obind_inv hb
    obtain ⟨n, hn, hb⟩ := obind_inv hb
    cases n with
    | none => cases hb; cases he
    | some n => cases hb; exact (cLen_out hc false ho hbs ht hx hd hn (fun h => by cases h) h hf).mov hS hO
  case cap =>
    obtain ⟨t, ht, hb⟩ := obind_inv hb
    obtain ⟨bx, hx, hb⟩ := obind_inv hb
    obtain ⟨d, hd, hb⟩ := obind_inv hb
    obtain ⟨n, hn, hb⟩ := obind_inv hb
    cases n with
    | none => cases hb
    | some n =>
      have hb : bif_ (isStrD d) none (some (BOp.cap n bx)) = some b := hb
      cases hstr : isStrD d with
      | true => rw [hstr] at hb; cases hb
      | false =>
        rw [hstr] at hb; cases hb
        exact (cLen_out hc true ho hbs ht hx hd hn (fun _ => hstr) h hf).mov hS hO
  case min =>
    obtain ⟨d, hd, hb⟩ := obind_inv hb
    obtain ⟨_, hb⟩ := bif_some hb
    cases hb
    exact (xMinmax_out (mx := false) ho hbs hO h hf).mov hS hO
  case max =>
    obtain ⟨d, hd, hb⟩ := obind_inv hb
    obtain ⟨_, hb⟩ := bif_some hb
    cases hb
    exact (xMinmax_out (mx := true) ho hbs hO h hf).mov hS hO
  case append =>
    obtain ⟨t, ht, hb⟩ := obind_inv hb
    obtain ⟨u, hu, hb⟩ := obind_inv hb
    obtain ⟨du, hdu, hb⟩ := obind_inv hb
    obtain ⟨_, hb⟩ := bif_some hb
    obtain ⟨s, hs, hb⟩ := obind_inv hb
    obtain ⟨x, hx, hb⟩ := obind_inv hb
    obtain ⟨d, hd, hb⟩ := obind_inv hb
    obtain ⟨e, he', hb⟩ := obind_inv hb
    obtain ⟨n, hn, hb⟩ := obind_inv hb
    obtain ⟨z, hz, hb⟩ := obind_inv hb
    obtain ⟨_, hb⟩ := bif_some hb
    cases hb; cases he
  case copy =>
    obtain ⟨t, ht, hb⟩ := obind_inv hb
    obtain ⟨u, hu, hb⟩ := obind_inv hb
    obtain ⟨du, hdu, hb⟩ := obind_inv hb
    obtain ⟨_, hb⟩ := bif_some hb
    obtain ⟨s, hs, hb⟩ := obind_inv hb
    obtain ⟨x, hx, hb⟩ := obind_inv hb
    obtain ⟨d, hd, hb⟩ := obind_inv hb
    obtain ⟨e, he', hb⟩ := obind_inv hb
    obtain ⟨n, hn, hb⟩ := obind_inv hb
    cases hb; cases he
  case delete =>
    obtain ⟨t, ht, hb⟩ := obind_inv hb
    obtain ⟨s, hs, hb⟩ := obind_inv hb
    obtain ⟨x, hx, hb⟩ := obind_inv hb
    obtain ⟨d, hd, hb⟩ := obind_inv hb
    cases hb; cases he
  case clear =>
    obtain ⟨t, ht, hb⟩ := obind_inv hb
    obtain ⟨s, hs, hb⟩ := obind_inv hb
    obtain ⟨d, hd, hb⟩ := obind_inv hb
    split at hb
    · cases hb; cases he
    · obtain ⟨z, hz, hb⟩ := obind_inv hb
      obtain ⟨n, hn, hb⟩ := obind_inv hb
      cases hb; cases he
    · cases hb
  all_goals cases hb
/-- All operations that leave memory as it is. -/
theorem cBuild_noload {size : Tr Nat} {zero : Tr (List AV)} {t : TypeId} {l : List (Nat × Operand)} {d : TypeDesc} {b : BOp} (h : cBuild size zero t l d = some b) : ∀ n a, b ≠ .load n a := by
  intro n a e
  subst e
  unfold cBuild at h
  split at h
  · obtain ⟨_, _, h⟩ := obind_inv h
    obtain ⟨_, _, h⟩ := obind_inv h
    cases h
  · obtain ⟨_, _, h⟩ := obind_inv h
    obtain ⟨_, _, h⟩ := obind_inv h
    obtain ⟨_, _, h⟩ := obind_inv h
    cases h
  · cases h
theorem cBslice_noload {size : Tr Nat} {zero : Tr (List AV)} {len : Nat} {l : List (Nat × Operand)} {d : TypeDesc} {b : BOp} (h : cBslice size zero len l d = some b) : ∀ n a, b ≠ .load n a := by
  intro n a e
  subst e
  unfold cBslice at h
  split at h
  · obtain ⟨_, _, h⟩ := obind_inv h
    obtain ⟨_, _, h⟩ := obind_inv h
    obtain ⟨_, _, h⟩ := obind_inv h
    obtain ⟨_, h⟩ := bif_some h
    cases h
  · cases h
theorem mov_out (hc : CxOK X K w0) (hS : StRel X K w0 E st w) (hO : Oks E tm) {cxr : Rec} {b : BOp} (hb : cOp X.cx.und X.cx.size X.cx.zero o.type o.op = some b) (he : isEff b = false) (h : (xop b X.cx cxr tm st k).holds Θ E.va R) : MovOut X K w0 Θ R E o tm b st w k := by
  have hf := hS.facts
  cases ho : o.op <;> rw [ho] at hb <;> simp only [cOp] at hb
  case move x =>
    obtain ⟨bx, hx, hb⟩ := obind_inv hb; cases hb
    exact (ValOut.now (v := ev tm bx) h hf fun E' ρ hE hR => ⟨_, hR.get (x := x) (by rw [ho]; simp [Op.operands]) hx, fun w => by simp [execOp, ho]⟩).mov hS hO
  case assign x =>
    obtain ⟨bx, hx, hb⟩ := obind_inv hb; cases hb
    exact (ValOut.now (v := ev tm bx) h hf fun E' ρ hE hR => ⟨_, hR.get (x := x) (by rw [ho]; simp [Op.operands]) hx, fun w => by simp [execOp, ho]⟩).mov hS hO
  case pick c x y =>
    obtain ⟨b1, h1, hb⟩ := obind_inv hb
    obtain ⟨b2, h2, hb⟩ := obind_inv hb
    obtain ⟨b3, h3, hb⟩ := obind_inv hb
    cases hb
    exact (xPick_out h1 h2 h3 ho hO h hf).mov hS hO
  case alloc t =>
    obtain ⟨z, hz, hb⟩ := obind_inv hb; cases hb
    exact alloc_out hc hS hz ho h
  case box t x =>
    obtain ⟨bx, hx, hb⟩ := obind_inv hb; cases hb
    exact box_out hS hO hx ho h
  case build t parts =>
    obtain ⟨d, hd, hb⟩ := obind_inv hb
    exact (cBuild_out hc hd hb h hf ho).mov hS hO (cBuild_noload hb)
  case buildSlice t n parts =>
    obtain ⟨d, hd, hb⟩ := obind_inv hb
    exact bslice_out hc hS hO hd hb ho h (cBslice_noload hb)
  case load t x =>
    obtain ⟨g, hg, hb⟩ := obind_inv hb
    obtain ⟨bx, hx, hb⟩ := obind_inv hb
    cases hb
    exact load_out hc hS hx hg ho h
  case store t x y =>
    obtain ⟨g, hg, hb⟩ := obind_inv hb
    obtain ⟨bx, hx, hb⟩ := obind_inv hb
    obtain ⟨by_, hy, hb⟩ := obind_inv hb
    cases hb; cases he
  case nilCheck x =>
    obtain ⟨bx, hx, hb⟩ := obind_inv hb; cases hb
    exact (xNilc_out hx ho h hf).mov hS hO
  case binOp op t x y yt =>
    obtain ⟨d, hd, hb⟩ := obind_inv hb
    obtain ⟨bx, hx, hb⟩ := obind_inv hb
    obtain ⟨by_, hy, hb⟩ := obind_inv hb
    cases hb
    obtain ⟨v, f, g1, g2, g3⟩ := xBin_inv hc (xo := x) (yo := y) h hf (hO.ev hx) (hO.ev hy) hd
    refine ValOut.mov ⟨v, f, g1, g2, fun E' ρ hE hR => ?_⟩ hS hO
    obtain ⟨z, hz, hrun⟩ := g3 E' _ _ hE (hR.get (x := x) (by rw [ho]; simp [Op.operands]) hx) (hR.get (x := y) (by rw [ho]; simp [Op.operands]) hy)
    refine ⟨z, hz, fun w => ?_⟩
    have := hrun w
    simp only [opRun] at this
    simp only [execOp, ho, Sem.run_bind] at this ⊢
    rw [this]; rfl
  case unOp op t x =>
    obtain ⟨bx, hx, hb⟩ := obind_inv hb; cases hb
    exact (un_out (run := Op.unary op) hx (by rw [ho]; simp [Op.operands]) (fun ρ => by simp only [execOp, ho]) (xUn_inv h hf (hO.ev hx))).mov hS hO
  case convert s d x =>
    obtain ⟨sd, hsd, hb⟩ := obind_inv hb
    obtain ⟨dd, hdd, hb⟩ := obind_inv hb
    obtain ⟨bx, hx, hb⟩ := obind_inv hb
    cases hb
    have he : (isEffC sd dd && not (Nat.beq s d)) = false := he
    cases hsm : isEffC sd dd with
    | false => exact (conv1_out hc hx hsd hdd ho hsm hO h hf).mov hS hO
    | true =>
      rw [hsm, Bool.true_and, beq_iff, Bool.not_eq_false', decide_eq_true_eq] at he
      subst he
      rw [hsd] at hdd
      cases hdd
      have h : (conv1 X.cx st k (ebOf X.cx.und sd sd) (Nat.beq s s) sd (ev tm bx)).holds Θ E.va R := h
      unfold conv1 at h
      split at h
      · cases hsm
      · cases hsm
      · rename_i e
        split at h
        · obtain ⟨h1, h⟩ := vif_inv h
          rw [beq_iff] at h1
          simp at h1
        · rename_i j off n c hev
          obtain ⟨h1, h⟩ := vif_inv h
          rw [Bool.and_eq_true] at h1
          exact mark_out hc hS hO hx hsd hev h1.1 ho h
        · exact h.elim
      · exact h.elim
  case sliceToArrayPointer t x =>
    obtain ⟨d, hd, hb⟩ := obind_inv hb
    split at hb
    · obtain ⟨bx, hx, hb⟩ := obind_inv hb; cases hb
      exact (xS2a_out hc hx hd ho h hf).mov hS hO
    · cases hb
  case makeInterface t x =>
    obtain ⟨d, hd, hb⟩ := obind_inv hb
    obtain ⟨hn, hb⟩ := bif_some hb
    obtain ⟨bx, hx, hb⟩ := obind_inv hb; cases hb
    exact (xMki_out hc hx hd hn ho h hf).mov hS hO
  case makeFunc fn a c =>
    obtain ⟨ba, ha, hb⟩ := obind_inv hb
    obtain ⟨bc, hcc, hb⟩ := obind_inv hb
    cases hb
    exact (xMkf_out ha hcc ho h hf).mov hS hO
  case makeMap t r =>
    obtain ⟨hr, hb⟩ := bif_some hb
    obtain ⟨rb, hrb, hb⟩ := obind_inv hb
    obtain ⟨d, hd, hb⟩ := obind_inv hb
    obtain ⟨p, hp, hb⟩ := obind_inv hb
    cases hb
    exact mkmap_out hc hS hd hp hr hrb ho h
  case makeSlice t l c =>
    obtain ⟨d, hd, hb⟩ := obind_inv hb
    obtain ⟨e, he', hb⟩ := obind_inv hb
    obtain ⟨n, hn, hb⟩ := obind_inv hb
    obtain ⟨z, hz, hb⟩ := obind_inv hb
    obtain ⟨bl, hl, hb⟩ := obind_inv hb
    obtain ⟨bc, hcc, hb⟩ := obind_inv hb
    obtain ⟨hpos, hb⟩ := bif_some hb
    cases hb
    have : d = .slice e := by cases d <;> cases he'; rfl
    subst this
    rw [blt_iff, decide_eq_true_eq] at hpos
    exact mksl_out hc hS hO hd hn hz hl hcc hpos ho h
  case slice t x lo hi mx =>
    obtain ⟨d, hd, hb⟩ := obind_inv hb
    obtain ⟨bx, hx, hb⟩ := obind_inv hb
    obtain ⟨bl, hl, hb⟩ := obind_inv hb
    obtain ⟨bh, hh, hb⟩ := obind_inv hb
    obtain ⟨bm, hm, hb⟩ := obind_inv hb
    obtain ⟨hmh, hb⟩ := bif_some hb
    have hmh' : mx.isSome = true → hi.isSome = true := by
      rw [isNo_some hm, isNo_some hh] at hmh
      cases mx <;> cases hi <;> simp_all
    unfold cSlice at hb
    split at hb
    · obtain ⟨s, hs, hb⟩ := obind_inv hb; cases hb
      exact (xSlS_out hc hS hO hx hl hh hm hd hs hmh' ho h).mov hS hO
    · obtain ⟨s, hs, hb⟩ := obind_inv hb; cases hb
      exact (xSlA_out hc hS hO hx hl hh hm (.inl hd) hs hmh' ho h).mov hS hO
    · obtain ⟨d2, hd2, hb⟩ := obind_inv hb
      split at hb
      · obtain ⟨s, hs, hb⟩ := obind_inv hb; cases hb
        exact (xSlA_out hc hS hO hx hl hh hm (.inr ⟨_, hd, hd2⟩) hs hmh' ho h).mov hS hO
      · cases hb
    · split at hb
      · cases hb
        have : mx = none := by
          cases mx with
          | none => rfl
          | some y => obtain ⟨_, _, e⟩ := obind_inv hm; cases e
        subst this
        exact (xSlT_out hc hS hO hx hl hh hd ho h).mov hS hO
      · cases hb
    · cases hb
  case fieldAddr s x f =>
    obtain ⟨d, hd, hb⟩ := obind_inv hb
    obtain ⟨fs, hfs, hb⟩ := obind_inv hb
    obtain ⟨fl, hfl, hb⟩ := obind_inv hb
    obtain ⟨n, hn, hb⟩ := obind_inv hb
    obtain ⟨bx, hx, hb⟩ := obind_inv hb
    obtain ⟨fa, rfl, rfl⟩ := fieldsOf_inv hfs
    cases n with
    | zero => cases hb
    | succ n =>
      cases hb
      exact (xFadr_out hc hx hd (getL_field hfl) hn ho h hf).mov hS hO
  case field s x f =>
    obtain ⟨d, hd, hb⟩ := obind_inv hb
    obtain ⟨fs, hfs, hb⟩ := obind_inv hb
    obtain ⟨fl, hfl, hb⟩ := obind_inv hb
    obtain ⟨g, hg, hb⟩ := obind_inv hb
    obtain ⟨bx, hx, hb⟩ := obind_inv hb
    cases hb
    obtain ⟨fa, rfl, rfl⟩ := fieldsOf_inv hfs
    exact (xFld_out hc hx hd (getL_field hfl) hg ho h hf).mov hS hO
  case indexAddr t x i =>
    obtain ⟨d, hd, hb⟩ := obind_inv hb
    obtain ⟨bx, hx, hb⟩ := obind_inv hb
    obtain ⟨bi, hi, hb⟩ := obind_inv hb
    unfold cIadr at hb
    split at hb
    · obtain ⟨s, hs, hb⟩ := obind_inv hb; cases hb
      exact (xIadrA_out hc hO hx hi hd hs ho h hf).mov hS hO
    · obtain ⟨s, hs, hb⟩ := obind_inv hb; cases hb
      exact (xIadrS_out hc hO hx hi hd hs ho h hf).mov hS hO
    · cases hb
  case index t x i =>
    obtain ⟨d, hd, hb⟩ := obind_inv hb
    obtain ⟨bx, hx, hb⟩ := obind_inv hb
    obtain ⟨bi, hi, hb⟩ := obind_inv hb
    unfold cIdx at hb
    split at hb
    · obtain ⟨s, hs, hb⟩ := obind_inv hb
      obtain ⟨g, hg, hb⟩ := obind_inv hb
      cases hb
      exact (xIdxA_out hc hO hx hi hd hs hg ho h hf).mov hS hO
    · cases hb
      exact (xIdxS_out hc hO hx hi hd ho h hf).mov hS hO
    · cases hb
  case typeAssert x xt t ok =>
    obtain ⟨d, hd, hb⟩ := obind_inv hb
    obtain ⟨hn, hb⟩ := bif_some hb
    obtain ⟨z, hz, hb⟩ := obind_inv hb
    obtain ⟨bx, hx, hb⟩ := obind_inv hb
    cases hb
    exact (xTass_out hc hx hd hn hz ho h hf).mov hS hO
  case extract x i =>
    obtain ⟨bx, hx, hb⟩ := obind_inv hb; cases hb
    exact (xExt_out hx ho h hf).mov hS hO
  case call c =>
    obtain ⟨cl, args, tys⟩ := c
    obtain ⟨bs, hbs, hb⟩ := obind_inv hb
    cases cl with
    | builtin bi => exact builtin_mov hc hS hO ho hbs hb he h
    | value f =>
      cases f with
      | func f => cases hb; cases he
      | tmp x =>
        obtain ⟨bx, hx, hb⟩ := obind_inv (show obind (cO (.tmp x)) (fun x => some (BOp.callv x bs)) = some b from hb)
        cases hb; cases he
      | const x =>
        obtain ⟨bx, hx, hb⟩ := obind_inv (show obind (cO (.const x)) (fun x => some (BOp.callv x bs)) = some b from hb)
        cases hb; cases he
      | «global» x =>
        obtain ⟨bx, hx, hb⟩ := obind_inv (show obind (cO (.global x)) (fun x => some (BOp.callv x bs)) = some b from hb)
        cases hb; cases he
    | invoke r n => cases hb
  case lookup t m k ok =>
    obtain ⟨_, _, hb⟩ := obind_inv hb
    obtain ⟨_, _, hb⟩ := obind_inv hb
    obtain ⟨_, _, hb⟩ := obind_inv hb
    obtain ⟨_, _, hb⟩ := obind_inv hb
    cases hb; cases he
  case mapUpdate t m k x =>
    obtain ⟨_, _, hb⟩ := obind_inv hb
    obtain ⟨_, _, hb⟩ := obind_inv hb
    obtain ⟨_, _, hb⟩ := obind_inv hb
    obtain ⟨_, _, hb⟩ := obind_inv hb
    cases hb; cases he
  case insert t m k x =>
    obtain ⟨_, _, hb⟩ := obind_inv hb
    obtain ⟨_, _, hb⟩ := obind_inv hb
    obtain ⟨_, _, hb⟩ := obind_inv hb
    obtain ⟨_, _, hb⟩ := obind_inv hb
    cases hb; cases he
  case mapEntry t m k =>
    obtain ⟨_, _, hb⟩ := obind_inv hb
    obtain ⟨_, _, hb⟩ := obind_inv hb
    obtain ⟨_, _, hb⟩ := obind_inv hb
    obtain ⟨_, _, hb⟩ := obind_inv hb
    cases hb; cases he
  case entryStore t m x y =>
    obtain ⟨_, _, hb⟩ := obind_inv hb
    obtain ⟨_, _, hb⟩ := obind_inv hb
    obtain ⟨_, _, hb⟩ := obind_inv hb
    cases hb; cases he
  case range t x =>
    obtain ⟨_, _, hb⟩ := obind_inv hb
    obtain ⟨_, _, hb⟩ := obind_inv hb
    split at hb
    · cases hb; cases he
    · cases hb; cases he
    · cases hb
  case next x s =>
    obtain ⟨_, _, hb⟩ := obind_inv hb
    cases s <;> (cases hb; cases he)
  case entry x =>
    obtain ⟨_, _, hb⟩ := obind_inv hb
    cases hb; cases he
  all_goals cases hb
end
end Go.Sy
