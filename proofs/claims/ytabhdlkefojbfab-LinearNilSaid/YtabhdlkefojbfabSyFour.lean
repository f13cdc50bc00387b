import Derived.Test.YtabhdlkefojbfabSyThree
import Derived.Laws.BytesString
import Derived.Laws.StructEq
/-! Operations that may come late: a mark; all of them together. -/
namespace Go.Sy
section
variable {X : Tabs} {K : Nat → Prop} {w0 : World} {E : Env} {st : St} {w : World} {Θ : Pred} {R : List Back} {tm : Tm} {k : Kt} {o : Oper}

theorem freeze_other (w : World) (a : Addr) (n : Nat) {i : Nat} (h : i ≠ a.block) : (w.freeze a n).heap[i]? = w.heap[i]? := by
  unfold World.freeze
  split
  · rfl
  · simp only [Array.getElem?_modify]; rw [if_neg (by omega)]
theorem freeze_same (w : World) (id m : Nat) {cs : Array Value} {el : TypeId} {fr : Nat × Nat} (h : w.heap[id]? = some (.cells cs el fr)) :
    ∃ fr', (w.freeze ⟨id, m, none⟩ 1).heap[id]? = some (.cells cs el fr') ∧ ((fr.1 = fr.2 ∨ m ≤ fr.1) → m ≤ fr'.1) := by
  obtain ⟨lo, hi⟩ := fr
  refine ⟨if lo == hi then (m, m + 1) else (min lo m, max hi (m + 1)), ?_, fun hfr => ?_⟩
  · simp [World.freeze, Array.getElem?_modify, h]
  · by_cases e : lo = hi
    · simp [e]
    · have : (lo == hi) = false := by simpa using e
      rw [this]
      rcases hfr with h | h
      · exact absurd h e
      · simp only [Bool.false_eq_true, if_false]; simp only at h; omega
theorem freeze_size (w : World) (a : Addr) (n : Nat) : (w.freeze a n).heap.size = w.heap.size := by
  unfold World.freeze
  split
  · rfl
  · simp
theorem StRel.freeze (hS : StRel X K w0 E st w) {id : Nat} (hid : ¬ K id) {cs : Array Value} {el : TypeId} {fr : Nat × Nat} (hh : w.heap[id]? = some (.cells cs el fr)) : StRel X K w0 E st (w.freeze ⟨id, cs.size, none⟩ 1) := by
  have hoth : ∀ i, i ≠ id → (w.freeze ⟨id, cs.size, none⟩ 1).heap[i]? = w.heap[i]? := fun i hi => freeze_other w _ 1 hi
  obtain ⟨fr', h1, h2⟩ := freeze_same w id cs.size hh
  refine ⟨hS.n_eq, hS.c_eq, hS.z_eq, hS.a_eq, hS.o_eq, hS.klt, ?_, fun k p hp => by rw [freeze_size]; exact hS.ids k p hp, hS.lt, fun k b hk => ?_, hS.fams, hS.livelt, hS.lives, fun k o hk => ?_, hS.oinj, hS.apart, hS.facts, hS.famh, hS.liveh, hS.ext⟩
  · have hos : (w.freeze ⟨id, cs.size, none⟩ 1).os = w.os ∧ (w.freeze ⟨id, cs.size, none⟩ 1).tape = w.tape ∧ (w.freeze ⟨id, cs.size, none⟩ 1).output = w.output := by
      unfold World.freeze; split <;> exact ⟨rfl, rfl, rfl⟩
    exact hS.kept.trans ⟨hos.1, hos.2.1, hos.2.2, by rw [freeze_size]; exact Nat.le_refl _, fun j hj => hoth j (fun e => hid (e ▸ hj))⟩
  · rcases hS.blks k b hk with h | ⟨id2, sh, cs2, el2, fr2, hm, hh2, hr⟩
    · exact .inl h
    · by_cases e : id2 = id
      · subst e
        rw [hh] at hh2
        cases hh2
        exact .inr ⟨id2, sh, cs, el, fr', hm, h1, ⟨.inr (h2 hr.free), hr.room, hr.bnd, hr.cap, hr.cells⟩⟩
      · exact .inr ⟨id2, sh, cs2, el2, fr2, hm, by rw [hoth _ e]; exact hh2, hr⟩
  · obtain ⟨g1, g2⟩ := hS.objs k o hk
    refine ⟨g1, g2.imp (fun h => h) fun ⟨id2, ob, g3, g4, g5⟩ => ⟨id2, ob, g3, ?_, g5⟩⟩
    rw [hoth]; exact g4
    rintro rfl
    rw [hh] at g4; cases g4
    exact g5.notCells
theorem mark_out (hc : CxOK X K w0) (hS : StRel X K w0 E st w) (hO : Oks E tm) {bo : BOp} {s : TypeId} {sd : TypeDesc} {x : Operand} {b : BO} {j off n : Nat} {c : Cap} (hb : cO x = some b) (hs : X.cx.und.get s = some sd) (hev : ev tm b = .slice (some ⟨.r j, off⟩) n c) (heb : ebOf X.cx.und sd sd = true) (ho : o.op = .convert s s x)
    (h : (k (.slice (some ⟨.r j, off⟩) n c) st).holds Θ E.va R) (hbo : ∀ n a, bo ≠ .load n a := by intro _ _ hh; cases hh) : MovOut X K w0 Θ R E o tm bo st w k := by
  have hok := hO.ev hb
  rw [hev] at hok
  refine ⟨_, st, E, h, .refl _, hS, .refl _ _, hok, fun _ _ h => h, .refl E, .of hbo, fun E'' st'' w'' ρ hE _ hS'' hR _ => ?_⟩
  have hx := hR.get (x := x) (by rw [ho]; simp [Op.operands]) hb
  rw [hev] at hx
  have hsl : ∃ e, sd = .slice e ∧ X.P.underlying e = some (.int .u8) := by
    cases sd <;> first | (cases heb; done) | skip
    rename_i e
    have h8 : isU8 X.cx.und e = true := heb
    unfold isU8 at h8
    cases hd : X.cx.und.get e with
    | none => rw [hd] at h8; cases h8
    | some d =>
      rw [hd] at h8
      refine ⟨e, rfl, ?_⟩
      have := hc.und e d hd
      cases d <;> first | (cases h8; done) | skip
      rename_i kd
      cases kd <;> first | (cases h8; done) | exact this
  obtain ⟨e, rfl, he⟩ := hsl
  have hu := hc.und s _ hs
  rcases den_slice_inv hx with ⟨e1, _⟩ | ⟨p, ad, cp, e1, had, _, _, e0⟩
  · cases e1
  · cases e1
    obtain ⟨q, hq, rfl⟩ := aden_r had
    have hex : ∀ w2, (markStringish ⟨q.1, off + q.2, none⟩).run X.P w'' = .ok () w2 → (execOp ρ o).run X.P w'' = .ok (.value (.slice (some ⟨q.1, off + q.2, none⟩) n cp)) w2 := by
      intro w2 hw2
      rw [run_conv ho, e0]
      unfold convert
      simp [run_underlying hu, run_underlying he, hw2]
    cases hsh : w''.shape? q.1 with
    | none =>
      refine ⟨E'', _, w'', .refl _, rfl, hex w'' ?_, hS'', hx.trans (by rw [e0]), fun _ _ h => h⟩
      simp [markStringish, hsh]
    | some tn =>
      have hcells : ∃ cs el fr, w''.heap[q.1]? = some (.cells cs el fr) ∧ tn = (el, cs.size) := by
        unfold World.shape? at hsh
        split at hsh
        · rename_i cs el fr hh; cases hsh; exact ⟨cs, el, fr, hh, rfl⟩
        · cases hsh
      obtain ⟨cs, el, fr, hh, rfl⟩ := hcells
      refine ⟨E'', _, w''.freeze ⟨q.1, cs.size, none⟩ 1, .refl _, rfl, hex _ ?_, hS''.freeze (hS''.ids _ _ hq).1 hh, hx.trans (by rw [e0]), fun _ _ h => h⟩
      simp [markStringish, hsh]

theorem getL_field {fa : Array Field} {f : Nat} {fl : Field} (h : getL f fa.toList = some fl) : fa[f]? = some fl := by rw [getL_eq] at h; simpa using h
theorem builtin_mov (hc : CxOK X K w0) (hS : StRel X K w0 E st w) (hO : Oks E tm) {cxr : Rec} {b : BOp} {bi : Builtin} {args : Array Operand} {tys : Array TypeId} {bs : List BO} (ho : o.op = .call ⟨.builtin bi, args, tys⟩) (hbs : cOs args.toList = some bs)
    (hb : cBuiltin X.cx.und X.cx.size X.cx.zero tys.toList bs o.type bi = some b) (he : isEff b = false) (h : (xop b X.cx cxr tm st k).holds Θ E.va R) : MovOut X K w0 Θ R E o tm b st w k := by
  have hf := hS.facts
  cases bi <;> simp only [cBuiltin] at hb
  case len =>
    obtain ⟨t, ht, hb⟩ := obind_inv hb
    obtain ⟨bx, hx, hb⟩ := obind_inv hb
    obtain ⟨d, hd, hb⟩ := obind_inv hb
    obtain ⟨n, hn, hb⟩ := obind_inv hb
    cases n with
    | none => cases hb; cases he
    | some n => cases hb; exact (cLen_out hc false ho hbs ht hx hd hn (fun h => by cases h) h hf).mov hS hO
  case cap =>
    obtain ⟨t, ht, hb⟩ := obind_inv hb
    obtain ⟨bx, hx, hb⟩ := obind_inv hb
    obtain ⟨d, hd, hb⟩ := obind_inv hb
    obtain ⟨n, hn, hb⟩ := obind_inv hb
    cases n with
    | none => cases hb
    | some n =>
      have hb : bif_ (isStrD d) none (some (BOp.cap n bx)) = some b := hb
      cases hstr : isStrD d with
      | true => rw [hstr] at hb; cases hb
      | false =>
        rw [hstr] at hb; cases hb
        exact (cLen_out hc true ho hbs ht hx hd hn (fun _ => hstr) h hf).mov hS hO
  case min =>
    obtain ⟨d, hd, hb⟩ := obind_inv hb
    obtain ⟨_, hb⟩ := bif_some hb
    cases hb
    exact (xMinmax_out (mx := false) ho hbs hO h hf).mov hS hO
  case max =>
    obtain ⟨d, hd, hb⟩ := obind_inv hb
    obtain ⟨_, hb⟩ := bif_some hb
    cases hb
    exact (xMinmax_out (mx := true) ho hbs hO h hf).mov hS hO
  case append =>
    obtain ⟨t, ht, hb⟩ := obind_inv hb
    obtain ⟨u, hu, hb⟩ := obind_inv hb
    obtain ⟨du, hdu, hb⟩ := obind_inv hb
    obtain ⟨_, hb⟩ := bif_some hb
    obtain ⟨s, hs, hb⟩ := obind_inv hb
    obtain ⟨x, hx, hb⟩ := obind_inv hb
    obtain ⟨d, hd, hb⟩ := obind_inv hb
    obtain ⟨e, he', hb⟩ := obind_inv hb
    obtain ⟨n, hn, hb⟩ := obind_inv hb
    obtain ⟨z, hz, hb⟩ := obind_inv hb
    obtain ⟨_, hb⟩ := bif_some hb
    cases hb; cases he
  case copy =>
    obtain ⟨t, ht, hb⟩ := obind_inv hb
    obtain ⟨u, hu, hb⟩ := obind_inv hb
    obtain ⟨du, hdu, hb⟩ := obind_inv hb
    obtain ⟨_, hb⟩ := bif_some hb
    obtain ⟨s, hs, hb⟩ := obind_inv hb
    obtain ⟨x, hx, hb⟩ := obind_inv hb
    obtain ⟨d, hd, hb⟩ := obind_inv hb
    obtain ⟨e, he', hb⟩ := obind_inv hb
    obtain ⟨n, hn, hb⟩ := obind_inv hb
    cases hb; cases he
  case delete =>
    obtain ⟨t, ht, hb⟩ := obind_inv hb
    obtain ⟨s, hs, hb⟩ := obind_inv hb
    obtain ⟨x, hx, hb⟩ := obind_inv hb
    obtain ⟨d, hd, hb⟩ := obind_inv hb
    cases hb; cases he
  case clear =>
    obtain ⟨t, ht, hb⟩ := obind_inv hb
    obtain ⟨s, hs, hb⟩ := obind_inv hb
    obtain ⟨d, hd, hb⟩ := obind_inv hb
    split at hb
    · cases hb; cases he
    · obtain ⟨z, hz, hb⟩ := obind_inv hb
      obtain ⟨n, hn, hb⟩ := obind_inv hb
      cases hb; cases he
    · cases hb
  all_goals cases hb
/-- All operations that leave memory as it is. -/
theorem cBuild_noload {size : Tr Nat} {zero : Tr (List AV)} {t : TypeId} {l : List (Nat × Operand)} {d : TypeDesc} {b : BOp} (h : cBuild size zero t l d = some b) : ∀ n a, b ≠ .load n a := by
  intro n a e
  subst e
  unfold cBuild at h
  split at h
  · obtain ⟨_, _, h⟩ := obind_inv h
    obtain ⟨_, _, h⟩ := obind_inv h
    cases h
  · obtain ⟨_, _, h⟩ := obind_inv h
    obtain ⟨_, _, h⟩ := obind_inv h
    obtain ⟨_, _, h⟩ := obind_inv h
    cases h
  · cases h
theorem cBslice_noload {size : Tr Nat} {zero : Tr (List AV)} {len : Nat} {l : List (Nat × Operand)} {d : TypeDesc} {b : BOp} (h : cBslice size zero len l d = some b) : ∀ n a, b ≠ .load n a := by
  intro n a e
  subst e
  unfold cBslice at h
  split at h
  · obtain ⟨_, _, h⟩ := obind_inv h
    obtain ⟨_, _, h⟩ := obind_inv h
    obtain ⟨_, _, h⟩ := obind_inv h
    obtain ⟨_, h⟩ := bif_some h
    cases h
  · cases h
theorem mov_out (hc : CxOK X K w0) (hS : StRel X K w0 E st w) (hO : Oks E tm) {cxr : Rec} {b : BOp} (hb : cOp X.cx.und X.cx.size X.cx.zero o.type o.op = some b) (he : isEff b = false) (h : (xop b X.cx cxr tm st k).holds Θ E.va R) : MovOut X K w0 Θ R E o tm b st w k := by
  have hf := hS.facts
  cases ho : o.op <;> rw [ho] at hb <;> simp only [cOp] at hb
  case move x =>
    obtain ⟨bx, hx, hb⟩ := obind_inv hb; cases hb
    exact (ValOut.now (v := ev tm bx) h hf fun E' ρ hE hR => ⟨_, hR.get (x := x) (by rw [ho]; simp [Op.operands]) hx, fun w => by simp [execOp, ho]⟩).mov hS hO
  case assign x =>
    obtain ⟨bx, hx, hb⟩ := obind_inv hb; cases hb
    exact (ValOut.now (v := ev tm bx) h hf fun E' ρ hE hR => ⟨_, hR.get (x := x) (by rw [ho]; simp [Op.operands]) hx, fun w => by simp [execOp, ho]⟩).mov hS hO
  case pick c x y =>
    obtain ⟨b1, h1, hb⟩ := obind_inv hb
    obtain ⟨b2, h2, hb⟩ := obind_inv hb
    obtain ⟨b3, h3, hb⟩ := obind_inv hb
    cases hb
    exact (xPick_out h1 h2 h3 ho hO h hf).mov hS hO
  case alloc t =>
    obtain ⟨z, hz, hb⟩ := obind_inv hb; cases hb
    exact alloc_out hc hS hz ho h
  case box t x =>
    obtain ⟨bx, hx, hb⟩ := obind_inv hb; cases hb
    exact box_out hS hO hx ho h
  case build t parts =>
    obtain ⟨d, hd, hb⟩ := obind_inv hb
    exact (cBuild_out hc hd hb h hf ho).mov hS hO (cBuild_noload hb)
  case buildSlice t n parts =>
    obtain ⟨d, hd, hb⟩ := obind_inv hb
    exact bslice_out hc hS hO hd hb ho h (cBslice_noload hb)
  case load t x =>
    obtain ⟨g, hg, hb⟩ := obind_inv hb
    obtain ⟨bx, hx, hb⟩ := obind_inv hb
    cases hb
    exact load_out hc hS hx hg ho h
  case store t x y =>
    obtain ⟨g, hg, hb⟩ := obind_inv hb
    obtain ⟨bx, hx, hb⟩ := obind_inv hb
    obtain ⟨by_, hy, hb⟩ := obind_inv hb
    cases hb; cases he
  case nilCheck x =>
    obtain ⟨bx, hx, hb⟩ := obind_inv hb; cases hb
    exact (xNilc_out hx ho h hf).mov hS hO
  case binOp op t x y yt =>
    obtain ⟨d, hd, hb⟩ := obind_inv hb
    obtain ⟨bx, hx, hb⟩ := obind_inv hb
    obtain ⟨by_, hy, hb⟩ := obind_inv hb
    cases hb
    obtain ⟨v, f, g1, g2, g3⟩ := xBin_inv hc (xo := x) (yo := y) h hf (hO.ev hx) (hO.ev hy) hd
    refine ValOut.mov ⟨v, f, g1, g2, fun E' ρ hE hR => ?_⟩ hS hO
    obtain ⟨z, hz, hrun⟩ := g3 E' _ _ hE (hR.get (x := x) (by rw [ho]; simp [Op.operands]) hx) (hR.get (x := y) (by rw [ho]; simp [Op.operands]) hy)
    refine ⟨z, hz, fun w => ?_⟩
    have := hrun w
    simp only [opRun] at this
    simp only [execOp, ho, Sem.run_bind] at this ⊢
    rw [this]; rfl
  case unOp op t x =>
    obtain ⟨bx, hx, hb⟩ := obind_inv hb; cases hb
    exact (un_out (run := Op.unary op) hx (by rw [ho]; simp [Op.operands]) (fun ρ => by simp only [execOp, ho]) (xUn_inv h hf (hO.ev hx))).mov hS hO
  case convert s d x =>
    obtain ⟨sd, hsd, hb⟩ := obind_inv hb
    obtain ⟨dd, hdd, hb⟩ := obind_inv hb
    obtain ⟨bx, hx, hb⟩ := obind_inv hb
    cases hb
    have he : (isEffC sd dd && not (Nat.beq s d)) = false := he
    cases hsm : isEffC sd dd with
    | false => exact (conv1_out hc hx hsd hdd ho hsm hO h hf).mov hS hO
    | true =>
      rw [hsm, Bool.true_and, beq_iff, Bool.not_eq_false', decide_eq_true_eq] at he
      subst he
      rw [hsd] at hdd
      cases hdd
      have h : (conv1 X.cx st k (ebOf X.cx.und sd sd) (Nat.beq s s) sd (ev tm bx)).holds Θ E.va R := h
      unfold conv1 at h
      split at h
      · cases hsm
      · cases hsm
      · rename_i e
        split at h
        · obtain ⟨h1, h⟩ := vif_inv h
          rw [beq_iff] at h1
          simp at h1
        · rename_i j off n c hev
          obtain ⟨h1, h⟩ := vif_inv h
          rw [Bool.and_eq_true] at h1
          exact mark_out hc hS hO hx hsd hev h1.1 ho h
        · exact h.elim
      · exact h.elim
  case sliceToArrayPointer t x =>
    obtain ⟨d, hd, hb⟩ := obind_inv hb
    split at hb
    · obtain ⟨bx, hx, hb⟩ := obind_inv hb; cases hb
      exact (xS2a_out hc hx hd ho h hf).mov hS hO
    · cases hb
  case makeInterface t x =>
    obtain ⟨d, hd, hb⟩ := obind_inv hb
    obtain ⟨hn, hb⟩ := bif_some hb
    obtain ⟨bx, hx, hb⟩ := obind_inv hb; cases hb
    exact (xMki_out hc hx hd hn ho h hf).mov hS hO
  case makeFunc fn a c =>
    obtain ⟨ba, ha, hb⟩ := obind_inv hb
    obtain ⟨bc, hcc, hb⟩ := obind_inv hb
    cases hb
    exact (xMkf_out ha hcc ho h hf).mov hS hO
  case makeMap t r =>
    obtain ⟨hr, hb⟩ := bif_some hb
    obtain ⟨rb, hrb, hb⟩ := obind_inv hb
    obtain ⟨d, hd, hb⟩ := obind_inv hb
    obtain ⟨p, hp, hb⟩ := obind_inv hb
    cases hb
    exact mkmap_out hc hS hd hp hr hrb ho h
  case makeSlice t l c =>
    obtain ⟨d, hd, hb⟩ := obind_inv hb
    obtain ⟨e, he', hb⟩ := obind_inv hb
    obtain ⟨n, hn, hb⟩ := obind_inv hb
    obtain ⟨z, hz, hb⟩ := obind_inv hb
    obtain ⟨bl, hl, hb⟩ := obind_inv hb
    obtain ⟨bc, hcc, hb⟩ := obind_inv hb
    obtain ⟨hpos, hb⟩ := bif_some hb
    cases hb
    have : d = .slice e := by cases d <;> cases he'; rfl
    subst this
    rw [blt_iff, decide_eq_true_eq] at hpos
    exact mksl_out hc hS hO hd hn hz hl hcc hpos ho h
  case slice t x lo hi mx =>
    obtain ⟨d, hd, hb⟩ := obind_inv hb
    obtain ⟨bx, hx, hb⟩ := obind_inv hb
    obtain ⟨bl, hl, hb⟩ := obind_inv hb
    obtain ⟨bh, hh, hb⟩ := obind_inv hb
    obtain ⟨bm, hm, hb⟩ := obind_inv hb
    obtain ⟨hmh, hb⟩ := bif_some hb
    have hmh' : mx.isSome = true → hi.isSome = true := by
      rw [isNo_some hm, isNo_some hh] at hmh
      cases mx <;> cases hi <;> simp_all
    unfold cSlice at hb
    split at hb
    · obtain ⟨s, hs, hb⟩ := obind_inv hb; cases hb
      exact (xSlS_out hc hS hO hx hl hh hm hd hs hmh' ho h).mov hS hO
    · obtain ⟨s, hs, hb⟩ := obind_inv hb; cases hb
      exact (xSlA_out hc hS hO hx hl hh hm (.inl hd) hs hmh' ho h).mov hS hO
    · obtain ⟨d2, hd2, hb⟩ := obind_inv hb
      split at hb
      · obtain ⟨s, hs, hb⟩ := obind_inv hb; cases hb
        exact (xSlA_out hc hS hO hx hl hh hm (.inr ⟨_, hd, hd2⟩) hs hmh' ho h).mov hS hO
      · cases hb
    · split at hb
      · cases hb
        have : mx = none := by
          cases mx with
          | none => rfl
          | some y => obtain ⟨_, _, e⟩ := obind_inv hm; cases e
        subst this
        exact (xSlT_out hc hS hO hx hl hh hd ho h).mov hS hO
      · cases hb
    · cases hb
  case fieldAddr s x f =>
    obtain ⟨d, hd, hb⟩ := obind_inv hb
    obtain ⟨fs, hfs, hb⟩ := obind_inv hb
    obtain ⟨fl, hfl, hb⟩ := obind_inv hb
    obtain ⟨n, hn, hb⟩ := obind_inv hb
    obtain ⟨bx, hx, hb⟩ := obind_inv hb
    obtain ⟨fa, rfl, rfl⟩ := fieldsOf_inv hfs
    cases n with
    | zero => cases hb
    | succ n =>
      cases hb
      exact (xFadr_out hc hx hd (getL_field hfl) hn ho h hf).mov hS hO
  case field s x f =>
    obtain ⟨d, hd, hb⟩ := obind_inv hb
    obtain ⟨fs, hfs, hb⟩ := obind_inv hb
    obtain ⟨fl, hfl, hb⟩ := obind_inv hb
    obtain ⟨g, hg, hb⟩ := obind_inv hb
    obtain ⟨bx, hx, hb⟩ := obind_inv hb
    cases hb
    obtain ⟨fa, rfl, rfl⟩ := fieldsOf_inv hfs
    exact (xFld_out hc hx hd (getL_field hfl) hg ho h hf).mov hS hO
  case indexAddr t x i =>
    obtain ⟨d, hd, hb⟩ := obind_inv hb
    obtain ⟨bx, hx, hb⟩ := obind_inv hb
    obtain ⟨bi, hi, hb⟩ := obind_inv hb
    unfold cIadr at hb
    split at hb
    · obtain ⟨s, hs, hb⟩ := obind_inv hb; cases hb
      exact (xIadrA_out hc hO hx hi hd hs ho h hf).mov hS hO
    · obtain ⟨s, hs, hb⟩ := obind_inv hb; cases hb
      exact (xIadrS_out hc hO hx hi hd hs ho h hf).mov hS hO
    · cases hb
  case index t x i =>
    obtain ⟨d, hd, hb⟩ := obind_inv hb
    obtain ⟨bx, hx, hb⟩ := obind_inv hb
    obtain ⟨bi, hi, hb⟩ := obind_inv hb
    unfold cIdx at hb
    split at hb
    · obtain ⟨s, hs, hb⟩ := obind_inv hb
      obtain ⟨g, hg, hb⟩ := obind_inv hb
      cases hb
      exact (xIdxA_out hc hO hx hi hd hs hg ho h hf).mov hS hO
    · cases hb
      exact (xIdxS_out hc hO hx hi hd ho h hf).mov hS hO
    · cases hb
  case typeAssert x xt t ok =>
    obtain ⟨d, hd, hb⟩ := obind_inv hb
    obtain ⟨hn, hb⟩ := bif_some hb
    obtain ⟨z, hz, hb⟩ := obind_inv hb
    obtain ⟨bx, hx, hb⟩ := obind_inv hb
    cases hb
    exact (xTass_out hc hx hd hn hz ho h hf).mov hS hO
  case extract x i =>
    obtain ⟨bx, hx, hb⟩ := obind_inv hb; cases hb
    exact (xExt_out hx ho h hf).mov hS hO
  case call c =>
    obtain ⟨cl, args, tys⟩ := c
    obtain ⟨bs, hbs, hb⟩ := obind_inv hb
    cases cl with
    | builtin bi => exact builtin_mov hc hS hO ho hbs hb he h
    | value f =>
      cases f with
      | func f => cases hb; cases he
      | tmp x =>
        obtain ⟨bx, hx, hb⟩ := obind_inv (show obind (cO (.tmp x)) (fun x => some (BOp.callv x bs)) = some b from hb)
        cases hb; cases he
      | const x =>
        obtain ⟨bx, hx, hb⟩ := obind_inv (show obind (cO (.const x)) (fun x => some (BOp.callv x bs)) = some b from hb)
        cases hb; cases he
      | «global» x =>
        obtain ⟨bx, hx, hb⟩ := obind_inv (show obind (cO (.global x)) (fun x => some (BOp.callv x bs)) = some b from hb)
        cases hb; cases he
    | invoke r n => cases hb
  case lookup t m k ok =>
    obtain ⟨_, _, hb⟩ := obind_inv hb
    obtain ⟨_, _, hb⟩ := obind_inv hb
    obtain ⟨_, _, hb⟩ := obind_inv hb
    obtain ⟨_, _, hb⟩ := obind_inv hb
    cases hb; cases he
  case mapUpdate t m k x =>
    obtain ⟨_, _, hb⟩ := obind_inv hb
    obtain ⟨_, _, hb⟩ := obind_inv hb
    obtain ⟨_, _, hb⟩ := obind_inv hb
    obtain ⟨_, _, hb⟩ := obind_inv hb
    cases hb; cases he
  case insert t m k x =>
    obtain ⟨_, _, hb⟩ := obind_inv hb
    obtain ⟨_, _, hb⟩ := obind_inv hb
    obtain ⟨_, _, hb⟩ := obind_inv hb
    obtain ⟨_, _, hb⟩ := obind_inv hb
    cases hb; cases he
  case mapEntry t m k =>
    obtain ⟨_, _, hb⟩ := obind_inv hb
    obtain ⟨_, _, hb⟩ := obind_inv hb
    obtain ⟨_, _, hb⟩ := obind_inv hb
    obtain ⟨_, _, hb⟩ := obind_inv hb
    cases hb; cases he
  case entryStore t m x y =>
    obtain ⟨_, _, hb⟩ := obind_inv hb
    obtain ⟨_, _, hb⟩ := obind_inv hb
    obtain ⟨_, _, hb⟩ := obind_inv hb
    cases hb; cases he
  case range t x =>
    obtain ⟨_, _, hb⟩ := obind_inv hb
    obtain ⟨_, _, hb⟩ := obind_inv hb
    split at hb
    · cases hb; cases he
    · cases hb; cases he
    · cases hb
  case next x s =>
    obtain ⟨_, _, hb⟩ := obind_inv hb
    cases s <;> (cases hb; cases he)
  case entry x =>
    obtain ⟨_, _, hb⟩ := obind_inv hb
    cases hb; cases he
  all_goals cases hb
end
end Go.Sy
/-! Operations that change memory: what is asked of each. -/
namespace Go.Sy

/-- Activations of functions; of a round. -/
def FW : Option Nat → Fence
  | none => Fence.wide
  | some l => Fence.wide.inRound l
theorem FW_fn (r : Option Nat) (f : FuncId) : (FW r).fn f := by cases r <;> trivial
theorem FW_round (r : Option Nat) : (FW r).round = r := by cases r <;> rfl
theorem FW_depth (r : Option Nat) : (FW r).depth = none := by cases r <;> rfl
theorem FW_room (r : Option Nat) (n : Nat) : (FW r).room n := fun d h => by rw [FW_depth] at h; cases h
theorem FW_in (r : Option Nat) (l : Nat) : (FW r).inRound l = FW (some l) := by cases r <;> rfl
theorem FW_calls {r r' : Option Nat} {n : Nat} {P : Program} {f : FuncId} {args : Array Value} {w : World} {G : Ending → World → Prop} (h : CallsIn (FW r) n P f args w G) : CallsIn (FW r') n P f args w G := by
  cases r <;> cases r' <;> exact h
theorem FW_rounds {r r' : Option Nat} {n : Nat} {P : Program} {l : Nat} {f : FuncId} {tmps : Array Value} {x y : Code} {w : World} {G : Ending → World → Prop} (h : RoundIn (FW r) n P l f tmps x y w G) : RoundIn (FW r') n P l f tmps x y w G := by
  cases r <;> cases r' <;> exact h

def retOnly (G : Value → World → Prop) : Ending → World → Prop
  | .returned v, w => G v w
  | _, _ => False
/-- What an operation comes to. -/
def OpRes (P : Program) (G : Value → World → Prop) : Result Next → Prop
  | .ok (.value v) w' => G v w'
  | .ok .skip w' => G undef w'
  | .ok (.enter f args) w' => CallsIn (FW none) 0 P f args w' (retOnly G)
  | .ok (.round l f tmps x y) w' => RoundIn (FW none) 0 P l f tmps x y w' (retOnly G)
  | _ => False
theorem retOnly_mono {G G' : Value → World → Prop} (h : ∀ v w, G v w → G' v w) : ∀ e w, retOnly G e w → retOnly G' e w := by
  intro e w he
  cases e <;> first | exact h _ _ he | exact he
theorem OpRes.mono {P : Program} {G G' : Value → World → Prop} (h : ∀ v w, G v w → G' v w) {r : Result Next} (hr : OpRes P G r) : OpRes P G' r := by
  unfold OpRes at *
  split at hr
  · exact h _ _ hr
  · exact h _ _ hr
  · exact CallsIn.mono hr (retOnly_mono h)
  · exact RoundIn.mono hr (retOnly_mono h)
  · exact hr.elim
def notDefer : Op → Bool
  | .defer _ => false
  | _ => true
theorem OpRes.wpIn {P : Program} {G : Value → World → Prop} {r : Option Nat} {o : Oper} {a : Act} {w : World} {next : Act → World → Prop} {Q : Exit → Act → World → Prop} (hn : notDefer o.op = true) (h : OpRes P G ((execOp a.eval o).run P w)) (hq : ∀ v w', G v w' → next (a.put o.dst v) w') :
    o.wpIn (FW r) 0 P a w next Q := by
  have hsem : o.semAt (FW r).round a.eval = execOp a.eval o := Oper.semAt_eq _ _ _ (fun c hc => by rw [hc] at hn; cases hn)
  refine ⟨fun f _ => FW_fn r f, ?_⟩
  rw [hsem]
  generalize (execOp a.eval o).run P w = res at *
  unfold OpRes at h
  split at h
  · exact hq _ _ h
  · exact hq _ _ h
  · refine ⟨fun hd => (by rw [FW_depth] at hd; cases hd), FW_calls (CallsIn.mono h fun e w' he => ?_)⟩
    cases e <;> first | exact hq _ _ he | exact he.elim
  · refine ⟨fun hd => (by rw [FW_depth] at hd; cases hd), FW_rounds (RoundIn.mono h fun e w' he => ?_)⟩
    cases e <;> first | exact hq _ _ he | exact he.elim
  · exact h.elim

section
variable {X : Tabs} {K : Nat → Prop} {w0 : World} {E : Env} {st : St} {w : World} {Θ : Pred} {R : List Back} {tm : Tm} {k : Kt} {o : Oper}

/-- An outcome: a value and a world from which the rest goes on. -/
def Out (X : Tabs) (K : Nat → Prop) (w0 : World) (Θ : Pred) (R : List Back) (E : Env) (st : St) (k : Kt) (y : Value) (w' : World) : Prop :=
  ∃ v st' E' R', R <+: R' ∧ (k v st').holds Θ E'.va R' ∧ E.Le E' ∧ StRel X K w0 E' st' w' ∧ HP E E' st st' ∧ v.den E' = some y
theorem Out.now {v : AV} {y : Value} (h : (k v st).holds Θ E.va R) (hS : StRel X K w0 E st w) (hv : v.den E = some y) : Out X K w0 Θ R E st k y w :=
  ⟨v, st, E, R, List.prefix_rfl, h, .refl E, hS, .refl E st, hv⟩
def EffOut (X : Tabs) (K : Nat → Prop) (w0 : World) (Θ : Pred) (R : List Back) (E : Env) (o : Oper) (tm : Tm) (st : St) (w : World) (k : Kt) : Prop :=
  ∀ ρ, Rd E tm ρ o.op.operands.toList → OpRes X.P (Out X K w0 Θ R E st k) ((execOp ρ o).run X.P w)
theorem MovOut.eff {bo : BOp} (h : MovOut X K w0 Θ R E o tm bo st w k) : EffOut X K w0 Θ R E o tm st w k := by
  obtain ⟨v, st', E', h1, h2, h3, h4, h5, h6, h7, hld, h8⟩ := h
  intro ρ hR
  have hR' : Rd E' tm ρ o.op.operands.toList := fun x hx b hb => den_mono h2 _ (hR x hx b hb)
  obtain ⟨E3, y, w3, g1, g2, g3, g4, g5, g6⟩ := h8 E' st' w ρ (.refl E') (fun k hk hk' => ⟨h7 k hk hk', rfl, rfl⟩) h3 hR' hld
  rw [g3]
  refine ⟨v, st', E3, R, List.prefix_rfl, by rw [g2]; exact h1, h2.trans g1, g4, fun j hj => ?_, g5⟩
  obtain ⟨a, b, c, d⟩ := h4 j hj
  exact ⟨g6 j (.inl (List.getElem?_eq_some_iff.1 hj).1) a, b, c, d⟩
end
end Go.Sy
/-! Stores, append, copy, texts. -/
namespace Go.Sy
section
variable {X : Tabs} {K : Nat → Prop} {w0 : World} {E : Env} {st : St} {w : World} {Θ : Pred} {R : List Back} {tm : Tm} {k : Kt} {o : Oper}

theorem store_out (hc : CxOK X K w0) (hS : StRel X K w0 E st w) {t : TypeId} {a x : Operand} {n : Nat} {ba bx : BO} (hn : X.cx.size.get t = some n) (ha : cO a = some ba) (hx : cO x = some bx) (ho : o.op = .store t a x)
    (h : (xStore n (ev tm bx) st k (ev tm ba)).holds Θ E.va R) : EffOut X K w0 Θ R E o tm st w k := by
  intro ρ hR
  obtain ⟨ad, had, h⟩ := vbind_inv h
  have h1 := hR.get (x := a) (by rw [ho]; simp [Op.operands]) ha
  have h2 := hR.get (x := x) (by rw [ho]; simp [Op.operands]) hx
  rw [asPtr_inv had] at h1
  obtain ⟨p, hp, e1⟩ := den_ptr h1
  obtain ⟨st', w', g1, g2, g3, g4⟩ := storeAt_sound hc hS hn h h2 hp
  have hrun : (execOp ρ o).run X.P w = .ok .skip w' := by simp [execOp, ho, e1, Instr.storeAt, Instr.sureAddr, g2]
  rw [hrun]
  exact ⟨_, st', E, R, List.prefix_rfl, g1, .refl E, g3, g4, rfl⟩

/-- What operands of a builtin are. -/
theorem barg {b : Builtin} {args : Array Operand} {tys : Array TypeId} {bs : List BO} (ho : o.op = .call ⟨.builtin b, args, tys⟩) (hb : cOs args.toList = some bs) {ρ : Operand → Value} (hR : Rd E tm ρ o.op.operands.toList) {i : Nat} {bx : BO} (hx : getL i bs = some bx) :
    ∃ y, (ev tm bx).den E = some y ∧ (args.map ρ)[i]? = some y := by
  obtain ⟨x, hx1, hx2⟩ := cOs_get hb (by rw [getL_eq] at hx; exact hx)
  refine ⟨ρ x, hR.get (x := x) ?_ hx2, ?_⟩
  · rw [ops_call ho]; exact List.mem_of_getElem? hx1
  · have : args[i]? = some x := by simpa using hx1
    simp [this]

theorem lenOf_sound {x : AV} {m : Nat} (h : lenOf x = some m) {y : Value} (hy : x.den E = some y) (w : World) : (Builtin.lenOf y).run X.P w = .ok m w := by
  unfold lenOf at h
  split at h
  · cases h
    obtain ⟨ad, cp, rfl, _⟩ := den_slice' hy
    rfl
  · cases h
    obtain ⟨_, _, _, _, _, rfl⟩ := den_sl0 hy
    rfl
  · cases h
    obtain ⟨h1, _, rfl⟩ := den_str hy
    show Result.ok _ _ = _
    rw [bytesOf_size, ← h1]
  · cases h
theorem denL_bytes : ∀ {l : List Nat}, (∀ c ∈ l, c < 256) → denL E (byteAVs l) = some (l.map fun c => .int .u8 (c : Int))
  | [], _ => rfl
  | c :: l, h => by
    have hc := h c (by simp)
    refine denL_cons.2 ⟨.int .u8 (c : Int), _, ?_, denL_bytes fun d hd => h d (List.mem_cons_of_mem _ hd), rfl⟩
    rw [den_int_of (by simpa [modOf] using hc), sgn_nat .u8 (by simpa [halfOf] using hc)]
theorem bytes_map {l : List Nat} (h : ∀ c ∈ l, c < 256) : (bytesOf l).data.map (fun b => Value.int .u8 (b.toNat : Int)) = (l.map fun (c : Nat) => Value.int .u8 (c : Int)).toArray := by
  apply Array.ext'
  simp only [bytesOf, List.map_toArray, List.map_map]
  refine List.map_congr_left fun c hc => ?_
  simp only [Function.comp_apply]
  rw [toU8 (h c hc)]
/-- The cells that are handed over. -/
theorem srcCells_sound (hc : CxOK X K w0) (hS : StRel X K w0 E st w) {es n : Nat} {x : AV} {l : List AV} (h : srcCells X.cx st es n x = some l) {y : Value} (hy : x.den E = some y) {m : Nat} (hm : lenOf x = some m) (hle : n ≤ m) :
    ∃ xs, denL E l = some xs ∧ xs.length = n * es ∧ (Builtin.firstCells es n y).run X.P w = .ok xs.toArray w ∧ ∀ ad p c, y = .slice (some ad) p c → 0 < p → ∀ (j : Nat) (z : Value), xs[j]? = some z → w.cell? (ad.add j) = some z := by
  unfold srcCells at h
  split at h
  · rename_i p _ _
    rw [natMul] at h
    rcases den_slice_inv hy with ⟨e1, _⟩ | ⟨q, ad, cp, e1, had, _, _, e0⟩
    · cases e1
    · cases e1; subst e0
      obtain ⟨xs, h1, h2, h3, h4⟩ := cells_sound hc hS h had
      exact ⟨xs, h1, h2, by simpa [Builtin.firstCells] using h3, fun ad' p' c' e _ => by cases e; exact h4⟩
  · cases h
    rcases den_slice_inv hy with ⟨_, e2, _, e0⟩ | ⟨q, ad, cp, e1, _⟩
    · subst e0
      cases hm
      have : n = 0 := by omega
      subst this
      exact ⟨[], rfl, by simp, by simp [Builtin.firstCells], fun _ _ _ e => by cases e⟩
    · cases e1
  · cases h
    cases hm
    have : n = 0 := by omega
    subst this
    obtain ⟨x, c, _, _, _, rfl⟩ := den_sl0 hy
    refine ⟨[], rfl, by simp, ?_, fun _ _ _ e hp => by cases e; exact absurd hp (Nat.lt_irrefl _)⟩
    simp only [Builtin.firstCells, Nat.zero_mul]
    exact run_loadCells_list (P := X.P) _ _ [] (fun i x hx => by simp at hx)
  · rename_i s
    obtain ⟨hes, h⟩ := bif_some h
    rw [beq_iff, decide_eq_true_eq] at hes
    subst hes
    cases h
    obtain ⟨h1, h2, rfl⟩ := den_str hy
    cases hm
    rw [takeL_eq]
    have h3 : ∀ c ∈ s.take n, c < 256 := fun c hc => h2 c (List.mem_of_mem_take hc)
    refine ⟨_, denL_bytes h3, by simp; omega, ?_, fun _ _ _ e => by cases e⟩
    have e1 : (bytesOf s).extract 0 n = bytesOf (s.take n) := by
      have := bytesOf_extract s 0 n
      simpa using this
    simp only [Builtin.firstCells]
    rw [e1, bytes_map h3]
    rfl
  · cases h


theorem clearS_out (hc : CxOK X K w0) (hS : StRel X K w0 E st w) {args : Array Operand} {tys : Array TypeId} {bs : List BO} {t e : TypeId} {n : Nat} {z : List AV} {bx : BO} (ho : o.op = .call ⟨.builtin .clear, args, tys⟩) (hb : cOs args.toList = some bs) (ht : getL 0 tys.toList = some t) (hx : getL 0 bs = some bx)
    (hd : X.cx.und.get t = some (.slice e)) (hz : X.cx.zero.get e = some z) (_hn : X.cx.size.get e = some n) (h : (xClearS n z st k (ev tm bx)).holds Θ E.va R) : EffOut X K w0 Θ R E o tm st w k := by
  intro ρ hR
  obtain ⟨y, hy, hy2⟩ := barg ho hb hR hx
  have ht' := tys_get ht
  have hu := hc.und t _ hd
  obtain ⟨ie, zv, h1, h2, h3, h4, h5, _⟩ := hc.zero e z hz
  have hzl := denL_length (h5 E)
  have go : ∀ w', (Builtin.clear_ tys o.type (args.map ρ)).run X.P w = .ok (.tuple #[]) w' → (execOp ρ o).run X.P w = .ok (.value (.tuple #[])) w' := by
    intro w' hw'
    simp [execOp, ho, resolve, invoke, Go.builtin, hw']
  unfold xClearS at h
  split at h
  · rename_i hev
    rw [hev] at hy
    rcases den_slice_inv hy with ⟨_, _, _, e0⟩ | ⟨q, ad, cp, e1, _⟩
    · subst e0
      rw [go w (by simp [Builtin.clear_, ht', hy2, run_underlying hu])]
      exact .now h hS rfl
    · cases e1
  · rename_i hev
    rw [hev] at hy
    obtain ⟨x, c, _, _, _, rfl⟩ := den_sl0 hy
    rw [go w (by simp [Builtin.clear_, ht', hy2, run_underlying hu])]
    exact .now h hS rfl
  · rename_i b off m c hev
    rw [hev] at hy
    rcases den_slice_inv hy with ⟨e1, _⟩ | ⟨q, ad, cp, e1, had, _, _, rfl⟩
    · cases e1
    · cases e1
      have hrep := denL_rep (h5 E) m
      rw [rep_made zv.cells.toList m] at hrep
      obtain ⟨st', w', g1, g2, g3, g4⟩ := storeCells_sound hS h hrep had
      have hcl : (Builtin.clear_ tys o.type (args.map ρ)).run X.P w = .ok (.tuple #[]) w' := by
        cases m with
        | zero =>
          have hw : w' = w := by
            simp only [Nat.zero_mul] at g2
            have : (madeCells zv.cells.toList.toArray 0).toList = [] := by simp [madeCells]
            rw [this] at g2
            simpa [Go.storeCells] using g2.symm
          rw [hw]
          simp [Builtin.clear_, ht', hy2, run_underlying hu]
        | succ m =>
          have : (Builtin.zeroCells zv.cells (m + 1)).toList = (madeCells zv.cells.toList.toArray ((m + 1) * zv.cells.toList.length)).toList := by simp [Builtin.zeroCells, madeCells]
          rw [← this] at g2
          simp [Builtin.clear_, ht', hy2, run_underlying hu, zeroValue, typeInfo, h1, h2, g2, program, Sem.run]
      rw [go w' hcl]
      exact ⟨_, st', E, R, List.prefix_rfl, g1, .refl E, g3, g4, rfl⟩
  · exact h.elim

theorem copy_out (hc : CxOK X K w0) (hS : StRel X K w0 E st w) {args : Array Operand} {tys : Array TypeId} {bs : List BO} {t e : TypeId} {n : Nat} {bd bx : BO} (ho : o.op = .call ⟨.builtin .copy, args, tys⟩) (hb : cOs args.toList = some bs) (ht : getL 0 tys.toList = some t)
    (hd0 : getL 0 bs = some bd) (hx : getL 1 bs = some bx) (hd : X.cx.und.get t = some (.slice e)) (hn : X.cx.size.get e = some n)
    (h : (xCopy X.cx n (ev tm bx) st k (ev tm bd)).holds Θ E.va R) : EffOut X K w0 Θ R E o tm st w k := by
  intro ρ hR
  obtain ⟨y, hy, hy2⟩ := barg ho hb hR hx
  obtain ⟨yd, hyd, hyd2⟩ := barg ho hb hR hd0
  have ht' := tys_get ht
  have hu := hc.und t _ hd
  have go : ∀ v w', (Builtin.copy_ tys o.type (args.map ρ)).run X.P w = .ok v w' → (execOp ρ o).run X.P w = .ok (.value v) w' := by
    intro v w' hw'
    simp [execOp, ho, resolve, invoke, Go.builtin, hw']
  unfold xCopy at h
  split at h
  · rename_i b off m c hev
    rw [hev] at hyd
    obtain ⟨ml, hml, h⟩ := vbind_inv h
    rw [natK_eq] at h
    obtain ⟨l, hl, h⟩ := vbind_inv h
    rcases den_slice_inv hyd with ⟨e1, _⟩ | ⟨q, ad, cp, e1, had, _, _, rfl⟩
    · cases e1
    · cases e1
      rw [nmin_eq] at hl h
      obtain ⟨xs, h1, h2, h3, _⟩ := srcCells_sound hc hS hl hy hml (by omega)
      obtain ⟨st', w', g1, g2, g3, g4⟩ := storeCells_sound hS h h1 had
      obtain ⟨g5, g6⟩ := lenK_inv g1
      have hlen := lenOf_sound (X := X) hml hy w
      have e1 : Nat.min ml m = min ml m := rfl
      have hrun : (Builtin.copy_ tys o.type (args.map ρ)).run X.P w = .ok (goInt ((min ml m : Nat) : Int)) w' := by
        simp [Builtin.copy_, ht', hyd2, hy2, run_underlying hu, hlen, hc.size' hn, h3, g2, e1]
      rw [go _ w' hrun]
      exact ⟨_, st', E, R, List.prefix_rfl, g6, .refl E, g3, g4, den_i64 g5⟩
  · rename_i hev
    rw [hev] at hyd
    obtain ⟨ml, hml, h⟩ := vbind_inv h
    rcases den_slice_inv hyd with ⟨_, e2, _, rfl⟩ | ⟨q, ad, cp, e1, _⟩
    · have hlen := lenOf_sound (X := X) hml hy w
      have hf : ∃ cs, (Builtin.firstCells n 0 y).run X.P w = .ok cs w := by
        cases y <;> simp [Builtin.lenOf] at hlen
        · exact ⟨_, rfl⟩
        · rename_i a _ _
          cases a with
          | none => exact ⟨_, rfl⟩
          | some a =>
            refine ⟨#[], ?_⟩
            simp only [Builtin.firstCells, Nat.zero_mul]
            exact run_loadCells_list (P := X.P) _ _ [] (fun i x hx => by simp at hx)
      obtain ⟨cs, hcs⟩ := hf
      rw [go (goInt 0) w (by simp [Builtin.copy_, ht', hyd2, hy2, run_underlying hu, hlen, hc.size' hn, hcs])]
      exact .now h hS (den_i64 (by decide))
    · cases e1
  · exact h.elim
end
end Go.Sy
/-! Append. -/
namespace Go.Sy
section
variable {X : Tabs} {K : Nat → Prop} {w0 : World} {E : Env} {st : St} {w : World} {Θ : Pred} {R : List Back} {tm : Tm} {k : Kt} {o : Oper}

theorem growBy_le (n : Nat) : ∀ (f c : Nat), c ≤ n + (n + 768) / 4 → Builtin.growBy n f c ≤ n + (n + 768) / 4
  | 0, c, h => h
  | f + 1, c, h => by
    simp only [Builtin.growBy]
    split
    · exact h
    · exact growBy_le n f _ (by omega)
theorem nextcap_le {need c : Nat} (h : c < need) (hn : need ≤ 16777216) : Builtin.nextslicecap need c ≤ 33554432 := by
  unfold Builtin.nextslicecap
  split
  · omega
  · split
    · omega
    · have := growBy_le need 4 c (by omega); omega

/-- The run of an append. -/
theorem run_append (hc : CxOK X K w0) {t u e : TypeId} {du : TypeDesc} {sz n m cap : Nat} {z : List AV} {ad : Option Addr} {ty : TypeId} {yx : Value} {old new : List Value}
    (ht : X.P.underlying t = some (.slice e)) (hu : X.P.underlying u = some du) (hsrc : srcD du = true) (hz : X.cx.zero.get e = some z) (hs : X.cx.size.get e = some sz) (hneed : n + m ≤ 16777216) (hlen : ∀ w, (Builtin.lenOf yx).run X.P w = .ok m w)
    (hnew : (Builtin.firstCells sz m yx).run X.P w = .ok new.toArray w) (hold : (Builtin.firstCells sz n (.slice ad n cap)).run X.P w.drew = .ok old.toArray w.drew)
    (hnew' : (Builtin.firstCells sz m yx).run X.P w.drew = .ok new.toArray w.drew) :
    (n + m ≤ cap → ∀ w', (match ad with | some p => (Go.storeCells (p.add (n * sz)) new).run X.P w = .ok () w' | none => w' = w) →
      (Builtin.append_ #[t, u] ty #[.slice ad n cap, yx]).run X.P w = .ok (.slice ad (n + m) cap) w') ∧
    (¬ n + m ≤ cap → ∃ c rest, n + m ≤ c ∧ rest.size = (c - (n + m)) * sz ∧
      (Builtin.append_ #[t, u] ty #[.slice ad n cap, yx]).run X.P w = .ok (.slice (some ⟨w.heap.size, 0, none⟩) (n + m) c) (w.drew.alloc (.cells ((old ++ new).toArray ++ rest) e))) := by
  obtain ⟨ie, zv, h1, h2, h3, h4, h5, _⟩ := hc.zero e z hz
  obtain ⟨ie', hie, hsz⟩ := hc.size e sz hs
  rw [h1] at hie; cases hie
  have hzl := denL_length (h5 ⟨[], [], [], [], []⟩)
  constructor
  · intro hle w' hw'
    cases ad with
    | none =>
      subst hw'
      cases du <;> first | (cases hsrc; done) | simp [Builtin.append_, run_underlying ht, run_underlying hu, hc.size' hs, hlen, hle, hnew]
    | some p =>
      cases du <;> first | (cases hsrc; done) | simp [Builtin.append_, run_underlying ht, run_underlying hu, hc.size' hs, hlen, hle, hnew, hw']
  · intro hgt
    have hcap : cap < n + m := by omega
    have hnc := nextcap_le hcap hneed
    have hb : ¬ (Builtin.nextslicecap (n + m) cap * ie.bytes > 2 ^ 48) := by
      have : Builtin.nextslicecap (n + m) cap * ie.bytes ≤ 33554432 * 1048576 := Nat.mul_le_mul hnc h4
      omega
    have hb' : ¬ (281474976710656 < Builtin.nextslicecap (n + m) cap * ie.bytes) := by simpa using hb
    have hmax' : ¬ (9223372036854775807 < (n : Int) + (m : Int)) := by omega
    have hf : (Question.appendCap (n + m) cap e).forced = false := rfl
    have happ : ∀ Z : Array Value, old.toArray ++ (new.toArray ++ Z) = (old ++ new).toArray ++ Z := fun Z => by apply Array.ext'; simp
    refine ⟨(Question.appendCap (n + m) cap e).cut (w.tape w.drawn (.appendCap (n + m) cap e)), Builtin.zeroCells zv.cells ((Question.appendCap (n + m) cap e).cut (w.tape w.drawn (.appendCap (n + m) cap e)) - (n + m)), ?_, ?_, ?_⟩
    · simp only [Question.cut]; omega
    · have : zv.cells.size = sz := by rw [← hsz, h3, ← hzl]; simp
      simp [Builtin.zeroCells, this]
    · cases du <;> first | (cases hsrc; done) | simp [Builtin.append_, run_underlying ht, run_underlying hu, hc.size' hs, hlen, hgt, typeInfo, h1, hb', hmax', hf, hold, hnew', zeroValue, h2, newRow, happ]
theorem cutTr_get (n : Nat) : ∀ (t : Tr AV) (s j : Nat), (cutTr t n s).get j = if s ≤ j ∧ j < s + n then none else t.get j := by
  induction n with
  | zero => intro t s j; show t.get j = _; rw [if_neg (by omega)]
  | succ n ih =>
    intro t s j
    show (cutTr (t.set s none) n (Nat.succ s)).get j = _
    rw [ih, Tr.get_set]
    have e1 : Nat.succ s = s + 1 := rfl
    rw [e1]
    by_cases c : s + 1 ≤ j ∧ j < s + 1 + n
    · rw [if_pos c, if_pos (by omega)]
    · rw [if_neg c]
      by_cases c2 : s = j
      · rw [if_pos c2, if_pos (by omega)]
      · rw [if_neg c2, if_neg (by omega)]

/-- The new block and the new number. -/
def Env.both (E : Env) (p : Nat × Nat) (c : Nat) : Env := { E with m := E.m ++ [some p], caps := E.caps ++ [c] }
theorem Env.le_both (E : Env) (p : Nat × Nat) (c : Nat) : E.Le (E.both p c) := (E.le_push (some p)).trans ((E.push (some p)).le_cap c)
theorem both_n (hS : StRel X K w0 E st w) (p : Nat × Nat) (c : Nat) : (E.both p c).m[st.n]? = some (some p) := by rw [← hS.n_eq]; exact push_new E (some p)
theorem both_c (hS : StRel X K w0 E st w) (p : Nat × Nat) (c : Nat) : (E.both p c).caps[st.nc]? = some c := by rw [← hS.c_eq]; exact cap_new E c
theorem both_old (E : Env) (p : Nat × Nat) (c : Nat) {k : Nat} {q : Option (Nat × Nat)} (h : (E.both p c).m[k]? = some q) : (k < E.m.length ∧ E.m[k]? = some q) ∨ (k = E.m.length ∧ q = some p) := push_get E (some p) k q h
theorem both_keep (E : Env) (p : Nat × Nat) (c : Nat) {k : Nat} {q : Option (Nat × Nat)} (h : E.m[k]? = some q) : (E.both p c).m[k]? = some q := by
  show (E.push (some p)).m[k]? = _
  rw [push_old E (some p) (List.getElem?_eq_some_iff.1 h).1]; exact h

/-- A new one of some places: they are known, there is room for more. -/
theorem StRel.newGrown (hS : StRel X K w0 E st w) {cs : List AV} {xs : List Value} (hx : denL E cs = some xs) {c es : Nat} {rest : Array Value} {el : TypeId} (hroom : c * es ≤ xs.length + rest.size) (hin : xs.length ≤ c * es) (w1 : World) (hw : w1.heap = w.heap) (hS1 : StRel X K w0 E st w1) :
    StRel X K w0 (E.both (w.heap.size, 0) c) ((⟨st.n, Nat.succ st.nc, st.heap, st.live, st.x⟩ : St).blk ⟨lenL cs, puts cs 0 .nil, [], 0, st.n, Nat.succ st.nc, es⟩) (w1.alloc (.cells (xs.toArray ++ rest) el)) ∧
      HP E (E.both (w.heap.size, 0) c) st ((⟨st.n, Nat.succ st.nc, st.heap, st.live, st.x⟩ : St).blk ⟨lenL cs, puts cs 0 .nil, [], 0, st.n, Nat.succ st.nc, es⟩) := by
  have h1 := hS1.newCap c
  have hsz : w1.heap.size = w.heap.size := by rw [hw]
  have hE : (E.cap c).push (some (w.heap.size, 0)) = E.both (w.heap.size, 0) c := rfl
  have h2 := h1.newCells (b := ⟨lenL cs, puts cs 0 .nil, [], 0, st.n, Nat.succ st.nc, es⟩) (p := some (w.heap.size, 0)) (w' := w1.alloc (.cells (xs.toArray ++ rest) el)) rfl
    (.inr ⟨_, el, by rw [hsz], rfl, blkRel_list (denL_mono (E.le_both (w.heap.size, 0) c) _ hx) (fun i y hy => by
      have := (List.getElem?_eq_some_iff.1 hy).1
      rw [Array.getElem?_append_left (by simpa using this)]; simpa using hy) (fun i hi => by
      have hi : Nat.succ st.nc = i + 1 := hi
      have : i = st.nc := by omega
      subst this
      refine ⟨c, both_c hS _ _, ?_, hin⟩
      simp only [Array.size_append, List.size_toArray]; exact hroom)⟩)
  rw [hE] at h2
  refine ⟨h2, ?_⟩
  have h3 := (hp_cap E c st).trans (hp_blk h1 ⟨lenL cs, puts cs 0 .nil, [], 0, st.n, Nat.succ st.nc, es⟩ (some (w.heap.size, 0)))
  rw [hE] at h3
  exact h3
theorem cap_arith (n m c sz : Nat) (h : n + m ≤ c) : c * sz ≤ n * sz + m * sz + (c - (n + m)) * sz := by
  rw [← Nat.add_mul, ← Nat.add_mul]
  exact Nat.mul_le_mul_right _ (by omega)
theorem slice_u_den (hS : StRel X K w0 E st w) {p : Nat × Nat} {c len : Nat} (h : len ≤ c) : (AV.slice (some ⟨.r st.n, 0⟩) len (.u st.nc 0)).den (E.both p c) = some (.slice (some ⟨p.1, p.2, none⟩) len c) := by
  have h1 : aden (E.both p c) ⟨.r st.n, 0⟩ = some ⟨p.1, 0 + p.2, none⟩ := aden_r_of (both_n hS p c)
  have h2 : cden (E.both p c) (.u st.nc 0) = some c := by simp [cden, both_c hS p c]
  simp only [AV.den, h1, h2]
  rw [if_pos h, Nat.zero_add]
end
end Go.Sy
/-! Append where it isn't known whether there is room. -/
namespace Go.Sy
section
variable {X : Tabs} {K : Nat → Prop} {w0 : World} {E : Env} {st : St} {w : World} {Θ : Pred} {R : List Back} {tm : Tm} {k : Kt} {o : Oper}

/-- A block that may be one with an elder one. -/
theorem shared (hS : StRel X K w0 E st w) {k : Nat} {b : Blk} (hk : st.heap.get k = some b) {id sh : Nat} (hm : E.m[k]? = some (some (id, sh))) {w2 : World} {id2 sh2 c2 es : Nat} {start : Nat} {all : List AV} {xs : List Value}
    (hx : denL E all = some xs) (hst : start ≤ b.sz) (hK : ¬ K id2) (hid2 : id2 < w2.heap.size) (hsize : w.heap.size ≤ w2.heap.size) (hkept : Kept K w0 w2)
    (hoth : ∀ (j : Nat), j ≠ id → j < w.heap.size → w2.heap[j]? = w.heap[j]?)
    (hnew : ∀ (j : Nat) (bj : Blk) (p : Nat × Nat), st.heap.get j = some bj → bj.fam ≠ b.fam → E.m[j]? = some (some p) → p.1 ≠ id2)
    {cs : Array Value} {el : TypeId} {fr : Nat × Nat} (hh : w.heap[id]? = some (.cells cs el fr)) (hr : BlkRel E b sh cs fr)
    {cs' : Array Value} (hid : w2.heap[id]? = some (.cells cs' el fr)) (hidsz : cs'.size = cs.size) (hidc : ∀ i, i < start → cs'[i + sh]? = cs[i + sh]?)
    {cs2 : Array Value} {el2 : TypeId} {fr2 : Nat × Nat} (hh2 : w2.heap[id2]? = some (.cells cs2 el2 fr2)) (hfr2 : fr2.1 = fr2.2 ∨ cs2.size ≤ fr2.1) (hroom : xs.length + sh2 ≤ cs2.size) (hcells : ∀ (i : Nat) (y : Value), xs[i]? = some y → cs2[i + sh2]? = some y) (hcap : c2 * es + sh2 ≤ cs2.size) (hin : xs.length ≤ c2 * es)
    {h' : Tr Blk} (hget : ∀ j, h'.get j = if j = st.n then some ⟨lenL all, puts all 0 .nil, [], 0, b.fam, Nat.succ st.nc, es⟩ else if j = k then some ⟨start, cutTr b.cells (b.sz - start) start, [], 0, b.fam, b.cv, b.es⟩ else if j ∈ famOf st b k then none else st.heap.get j) :
    StRel X K w0 (E.both (id2, sh2) c2) ⟨Nat.succ st.n, Nat.succ st.nc, h', st.live.set b.fam (some [k, st.n]), st.x⟩ w2 ∧ HP E (E.both (id2, sh2) c2) st ⟨Nat.succ st.n, Nat.succ st.nc, h', st.live.set b.fam (some [k, st.n]), st.x⟩ := by
  have hle := E.le_both (id2, sh2) c2
  have hkn : k < st.n := (hS.lt k b hk).1
  have hmn := both_n hS (id2, sh2) c2
  have hkeep : ∀ (j : Nat) (q : Option (Nat × Nat)), E.m[j]? = some q → (E.both (id2, sh2) c2).m[j]? = some q := fun j q h => both_keep E _ _ h
  have hmk := hkeep k _ hm
  have hold : ∀ (j : Nat) (p : Nat × Nat), (E.both (id2, sh2) c2).m[j]? = some (some p) → (j < st.n ∧ E.m[j]? = some (some p)) ∨ (j = st.n ∧ p = (id2, sh2)) := by
    intro j p hp
    rcases both_old E _ _ hp with ⟨h1, h2⟩ | ⟨h1, h2⟩
    · exact .inl ⟨by rw [← hS.n_eq]; exact h1, h2⟩
    · exact .inr ⟨by rw [h1, hS.n_eq], by simpa using h2⟩
  obtain ⟨qf, hqf⟩ := hS.famh k b _ hk hm
  have kinds : ∀ j bj, h'.get j = some bj → (j = st.n ∧ bj = ⟨lenL all, puts all 0 .nil, [], 0, b.fam, Nat.succ st.nc, es⟩) ∨ (j = k ∧ bj = ⟨start, cutTr b.cells (b.sz - start) start, [], 0, b.fam, b.cv, b.es⟩) ∨
      (j ≠ k ∧ j < st.n ∧ st.heap.get j = some bj ∧ bj.fam ≠ b.fam) := by
    intro j bj hj
    rw [hget] at hj
    split at hj
    · cases hj; exact .inl ⟨by assumption, rfl⟩
    · split at hj
      · cases hj; exact .inr (.inl ⟨by assumption, rfl⟩)
      · split at hj
        · cases hj
        · rename_i h1 h2 h3
          exact .inr (.inr ⟨h2, (hS.lt j bj hj).1, hj, fun e => h3 (hS.lives k b hk j bj hj e)⟩)
  have fam_of : ∀ j bj, h'.get j = some bj → bj.fam = b.fam ∨ (st.heap.get j = some bj ∧ bj.fam ≠ b.fam) := by
    intro j bj hj
    rcases kinds j bj hj with ⟨_, rfl⟩ | ⟨_, rfl⟩ | ⟨_, _, h1, h2⟩
    · exact .inl rfl
    · exact .inl rfl
    · exact .inr ⟨h1, h2⟩
  refine ⟨⟨by simp [Env.both, hS.n_eq], by simp [Env.both, hS.c_eq], hS.z_eq, hS.a_eq, hS.o_eq, hS.klt, hkept, ?_, ?_, ?_, ?_, ?_, ?_, ?_, ?_, ?_, hS.facts, ?_, ?_, hS.ext.mono (E.le_both _ _)⟩, ?_⟩
  · intro j p hp
    rcases hold j p hp with ⟨_, h⟩ | ⟨_, rfl⟩
    · have := hS.ids j p h; exact ⟨this.1, Nat.lt_of_lt_of_le this.2 hsize⟩
    · exact ⟨hK, hid2⟩
  · intro j bj hj
    have hf := (hS.lt k b hk).2
    rcases kinds j bj hj with ⟨rfl, rfl⟩ | ⟨rfl, rfl⟩ | ⟨_, h0, h1, h2⟩
    · exact ⟨Nat.lt_succ_self _, Nat.lt_succ_of_lt hf⟩
    · exact ⟨Nat.lt_succ_of_lt hkn, Nat.lt_succ_of_lt hf⟩
    · have := hS.lt j bj h1; exact ⟨Nat.lt_succ_of_lt this.1, Nat.lt_succ_of_lt this.2⟩
  · intro j bj hj
    rcases kinds j bj hj with ⟨e0, e1⟩ | ⟨e0, e1⟩ | ⟨_, h0, h1, h2⟩
    · subst e0 e1
      refine .inr ⟨id2, sh2, cs2, el2, fr2, hmn, hh2, hfr2, ?_, ?_, ?_, ?_⟩
      · show lenL all + sh2 ≤ _; rw [lenL_eq, ← denL_length hx]; exact hroom
      · intro i v hv
        have hv' : (puts all 0 .nil).get i = some v := hv
        rw [puts_get] at hv'
        show i < lenL all
        rw [lenL_eq]
        split at hv'
        · omega
        · simp at hv'
      · intro i hi
        have : i = st.nc := by have : Nat.succ st.nc = i + 1 := hi; omega
        subst this
        refine ⟨c2, both_c hS _ _, hcap, ?_⟩
        show lenL all ≤ _
        rw [lenL_eq, ← denL_length hx]; exact hin
      · intro i v hv
        have hv' : (puts all 0 .nil).get i = some v := by
          rw [cell_eq] at hv
          simp only at hv
          cases e : (puts all 0 .nil).get i with
          | some u => rw [e] at hv; exact hv
          | none => rw [e] at hv; simp at hv
        rw [puts_get] at hv'
        by_cases c : 0 ≤ i ∧ i < 0 + all.length
        · rw [if_pos c] at hv'
          obtain ⟨y, h1, h2⟩ := denL_get hx hv'
          exact ⟨y, den_mono hle _ h1, by simpa using hcells _ _ h2⟩
        · rw [if_neg c] at hv'; simp at hv'
    · subst e0 e1
      have hget' : ∀ i v, (cutTr b.cells (b.sz - start) start).get i = some v → i < start ∧ b.cells.get i = some v := by
        intro i v hv
        rw [cutTr_get] at hv
        split at hv
        · cases hv
        · have := hr.bnd i v hv; exact ⟨by omega, hv⟩
      refine .inr ⟨id, sh, cs', el, fr, hmk, hid, ?_, ?_, fun i v hv => (hget' i v hv).1, fun i hi => ?_, fun i v hv => ?_⟩
      · rw [hidsz]; exact hr.free
      · have := hr.room; show start + sh ≤ cs'.size; omega
      · obtain ⟨c, g1, g2, g3⟩ := hr.cap i hi; exact ⟨c, hle.caps _ _ g1, by show c * b.es + sh ≤ _; omega, by show start ≤ c * b.es; omega⟩
      · have hv' : (cutTr b.cells (b.sz - start) start).get i = some v := by
          rw [cell_eq] at hv
          simp only at hv
          cases e : (cutTr b.cells (b.sz - start) start).get i with
          | some u => rw [e] at hv; exact hv
          | none => rw [e] at hv; simp at hv
        obtain ⟨g1, g2⟩ := hget' i v hv'
        obtain ⟨y, g3, g4⟩ := hr.cells i v (by rw [cell_eq, g2])
        exact ⟨y, den_mono hle _ g3, by rw [hidc i g1]; exact g4⟩
    · rcases hS.blks j bj h1 with hn | ⟨id', sh', cs0, el0, fr0, hm', hh', hr'⟩
      · exact .inl ⟨hkeep _ _ hn.1, hn.2.1, fun i v hv => (hn.2.2 i v hv).mono hle⟩
      · have hne : id' ≠ id := hS.fams j k bj b id' sh' id sh h1 hk hm' hm h2
        exact .inr ⟨id', sh', cs0, el0, fr0, hkeep _ _ hm', by rw [hoth id' hne (hS.ids j _ hm').2]; exact hh', hr'.mono hle⟩
  · intro k1 k2 b1 b2 id1 sh1 id2' sh2' h1 h2 m1 m2 hf
    have two : ∀ (j1 j2 : Nat) (c1 c2' : Blk) (i1 s1 i2 s2 : Nat), h'.get j1 = some c1 → h'.get j2 = some c2' → (E.both (id2, sh2) c2).m[j1]? = some (some (i1, s1)) → (E.both (id2, sh2) c2).m[j2]? = some (some (i2, s2)) → c1.fam = b.fam → c2'.fam ≠ b.fam → i1 ≠ i2 := by
      intro j1 j2 c1 c2' i1 s1 i2 s2 g1 g2 n1 n2 f1 f2
      rcases kinds j2 c2' g2 with ⟨_, e⟩ | ⟨_, e⟩ | ⟨_, q1, q2, q3⟩
      · subst e; exact absurd rfl f2
      · subst e; exact absurd rfl f2
      · rcases hold j2 _ n2 with ⟨_, n2⟩ | ⟨e, _⟩
        · rcases kinds j1 c1 g1 with ⟨e1, _⟩ | ⟨e1, _⟩ | ⟨_, _, _, q⟩
          · rw [e1, hmn] at n1; cases n1
            exact fun e => hnew j2 c2' _ q2 q3 n2 e.symm
          · rw [e1, hmk] at n1; cases n1
            exact fun e => hS.fams j2 _ c2' b i2 s2 id sh q2 hk n2 hm q3 e.symm
          · exact absurd f1 q
        · omega
    rcases fam_of k1 b1 h1 with f1 | ⟨g1, f1⟩ <;> rcases fam_of k2 b2 h2 with f2 | ⟨g2, f2⟩
    · exact absurd (f1.trans f2.symm) hf
    · exact two k1 k2 b1 b2 id1 sh1 id2' sh2' h1 h2 m1 m2 f1 f2
    · exact fun e => two k2 k1 b2 b1 id2' sh2' id1 sh1 h2 h1 m2 m1 f2 f1 e.symm
    · rcases hold k1 _ m1 with ⟨_, m1⟩ | ⟨e, _⟩
      · rcases hold k2 _ m2 with ⟨_, m2⟩ | ⟨e, _⟩
        · exact hS.fams k1 k2 b1 b2 id1 sh1 id2' sh2' g1 g2 m1 m2 hf
        · have := (hS.lt k2 b2 g2).1; omega
      · have := (hS.lt k1 b1 g1).1; omega
  · intro f l hl
    have hl : (st.live.set b.fam (some [k, st.n])).get f = some l := hl
    rw [Tr.get_set] at hl
    split at hl
    · rename_i e; rw [← e]; exact Nat.lt_succ_of_lt (hS.lt k b hk).2
    · exact Nat.lt_succ_of_lt (hS.livelt f l hl)
  · intro j bj hj k' b' hk' hf
    show k' ∈ (Option.rec [j] (fun l => l) ((st.live.set b.fam (some [k, st.n])).get bj.fam) : List Nat)
    rcases fam_of j bj hj with f1 | ⟨g1, f1⟩
    · rw [f1, Tr.get_set_same]
      show k' ∈ [k, st.n]
      rcases kinds k' b' hk' with ⟨e, _⟩ | ⟨e, _⟩ | ⟨_, _, _, q⟩
      · simp [e]
      · simp [e]
      · exact absurd (hf.trans f1) q
    · rw [Tr.get_set_other _ _ (fun e => f1 e.symm)]
      rcases fam_of k' b' hk' with f2 | ⟨g2, f2⟩
      · exact absurd (hf.symm.trans f2) f1
      · exact hS.lives j bj g1 k' b' g2 hf
  · intro j oj hj
    obtain ⟨h1, h2⟩ := hS.objs j oj hj
    refine ⟨Nat.lt_succ_of_lt h1, ?_⟩
    rcases h2 with h2 | ⟨id3, ob, g1, g2, g3⟩
    · exact .inl (hkeep _ _ h2)
    · refine .inr ⟨id3, ob, hkeep _ _ g1, ?_, g3.mono hle⟩
      rw [hoth id3 _ (hS.ids j _ g1).2]; exact g2
      rintro rfl
      rw [hh] at g2; cases g2
      exact g3.notCells
  · intro k1 k2 o1 o2 p h1 h2 m1 m2
    have l1 := (hS.objs k1 o1 h1).1
    have l2 := (hS.objs k2 o2 h2).1
    rcases hold k1 _ m1 with ⟨_, m1⟩ | ⟨e, _⟩
    · rcases hold k2 _ m2 with ⟨_, m2⟩ | ⟨e, _⟩
      · exact hS.oinj k1 k2 o1 o2 p h1 h2 m1 m2
      · omega
    · omega
  · intro j oj hj
    have h0 := hS.apart j oj hj
    have h1 := (hS.objs j oj hj).1
    show h'.get j = none
    cases e : h'.get j with
    | none => rfl
    | some bj =>
      rcases kinds j bj e with ⟨e1, _⟩ | ⟨e1, _⟩ | ⟨_, _, q, _⟩
      · omega
      · subst e1; rw [hk] at h0; cases h0
      · rw [h0] at q; cases q
  · intro j bj p hj hp
    rcases kinds j bj hj with ⟨_, rfl⟩ | ⟨_, rfl⟩ | ⟨_, q0, q1, q2⟩
    · exact ⟨qf, hkeep _ _ hqf⟩
    · exact ⟨qf, hkeep _ _ hqf⟩
    · rcases hold j p hp with ⟨_, h⟩ | ⟨e, _⟩
      · obtain ⟨q, hq⟩ := hS.famh j bj p q1 h
        exact ⟨q, hkeep _ _ hq⟩
      · omega
  · intro f l hl
    have hl : (st.live.set b.fam (some [k, st.n])).get f = some l := hl
    rw [Tr.get_set] at hl
    split at hl
    · rename_i e
      cases hl
      rw [← e]
      refine ⟨⟨qf, hkeep _ _ hqf⟩, fun j hj => ?_⟩
      rcases List.mem_cons.1 hj with rfl | hj
      · exact ⟨_, hmk⟩
      · rw [List.mem_singleton.1 hj]; exact ⟨_, hmn⟩
    · obtain ⟨⟨q, hq⟩, h2⟩ := hS.liveh f l hl
      exact ⟨⟨q, hkeep _ _ hq⟩, fun j hj => let ⟨q, hq⟩ := h2 j hj; ⟨q, hkeep _ _ hq⟩⟩
  · intro j hj
    have hlt : j < st.n := by rw [← hS.n_eq]; exact (List.getElem?_eq_some_iff.1 hj).1
    refine ⟨hkeep _ _ hj, ?_, rfl, ?_⟩
    · show h'.get j = _
      rw [hget, if_neg (by omega), if_neg (fun e => by subst e; rw [hm] at hj; cases hj), if_neg fun h => ?_]
      obtain ⟨q, hq⟩ := fam_mem hS (k := k) (b := b) hm j h
      rw [hj] at hq; cases hq
    · show (st.live.set b.fam (some [k, st.n])).get j = _
      rw [Tr.get_set_other]
      rintro rfl
      rw [hqf] at hj; cases hj
end
end Go.Sy
/-! Append, whole; bytes and texts. -/
namespace Go.Sy
section
variable {X : Tabs} {K : Nat → Prop} {w0 : World} {E : Env} {st : St} {w : World} {Θ : Pred} {R : List Back} {tm : Tm} {k : Kt} {o : Oper}

theorem bif_inv {b : Bool} {x y : VC} (h : (bif_ b x y).holds Θ E.va R) : (b = true ∧ x.holds Θ E.va R) ∨ (b = false ∧ y.holds Θ E.va R) := bif_holds h
theorem appNew_eq (st : St) (k : Kt) (es len : Nat) (cs : List AV) : appNew st k es len cs = k (.slice (some ⟨.r st.n, 0⟩) len (.u st.nc 0)) ((⟨st.n, Nat.succ st.nc, st.heap, st.live, st.x⟩ : St).blk ⟨lenL cs, puts cs 0 .nil, [], 0, st.n, Nat.succ st.nc, es⟩) := by
  obtain ⟨m, nc, h, lv, x⟩ := st
  unfold appNew
  simp only
  rw [natK_eq, newCells_eq]

theorem append_core (hc : CxOK X K w0) (hS : StRel X K w0 E st w) {ρ : Operand → Value} {t u e : TypeId} {sz : Nat} {du : TypeDesc} {z : List AV} {vx : AV} {yx ys : Value} {sa : Option AAddr} {n : Nat} {c : Cap}
    (hdu : X.cx.und.get u = some du) (hsrc : srcD du = true) (hd : X.cx.und.get t = some (.slice e)) (hn : X.cx.size.get e = some sz) (hz : X.cx.zero.get e = some z) (hpos : 0 < sz)
    (hyx : vx.den E = some yx) (hys : (AV.slice sa n c).den E = some ys)
    (go : ∀ v w', (Builtin.append_ #[t, u] o.type #[ys, yx]).run X.P w = .ok v w' → (execOp ρ o).run X.P w = .ok (.value v) w')
    (h : (vbind (lenOf vx) fun m => vbind (srcCells X.cx st sz m vx) fun new => vbind (srcCells X.cx st sz n (.slice sa n c)) fun old =>
      natK (Nat.add n m) fun len => vif (Nat.ble (Nat.mul len (Nat.succ sz)) 16777216) (append st k sz sa n len new old c)).holds Θ E.va R) : OpRes X.P (Out X K w0 Θ R E st k) ((execOp ρ o).run X.P w) := by
  have hut := hc.und t _ hd
  have huu := hc.und u _ hdu
  obtain ⟨m, hm, h⟩ := vbind_inv h
  obtain ⟨new, hnew, h⟩ := vbind_inv h
  obtain ⟨old, hold, h⟩ := vbind_inv h
  rw [natK_eq] at h
  obtain ⟨hcond, h⟩ := vif_inv h
  rw [ble_iff, decide_eq_true_eq, natMul, natAdd] at hcond
  have hneed : n + m ≤ 16777216 := by
    have : (n + m) * 1 ≤ (n + m) * (sz + 1) := Nat.mul_le_mul_left _ (by omega)
    have h2 : (n + m) * (sz + 1) ≤ 16777216 := hcond
    omega
  have hlen : ∀ w, (Builtin.lenOf yx).run X.P w = .ok m w := fun w => lenOf_sound hm hyx w
  obtain ⟨xn, hxn, hm0, hrn, _⟩ := srcCells_sound hc hS hnew hyx hm (Nat.le_refl _)
  obtain ⟨xn', hxn', _, hrn', _⟩ := srcCells_sound hc hS.drew hnew hyx hm (Nat.le_refl _)
  rw [hxn] at hxn'; cases hxn'
  obtain ⟨xo, hxo, hlo, hro, hcell⟩ := srcCells_sound hc hS hold hys (m := n) rfl (Nat.le_refl _)
  obtain ⟨xo', hxo', _, hro', _⟩ := srcCells_sound hc hS.drew hold hys (m := n) rfl (Nat.le_refl _)
  rw [hxo] at hxo'; cases hxo'
  have hall := denL_append hxo hxn
  have grown : ∀ (cp : Nat) (sa' : Option Addr), ys = .slice sa' n cp → ¬ n + m ≤ cp → (appNew st k sz (n + m) (old ++ new)).holds Θ E.va R → OpRes X.P (Out X K w0 Θ R E st k) ((execOp ρ o).run X.P w) := by
    intro cp sa' e0 hgt h
    subst e0
    obtain ⟨_, hB⟩ := run_append (ty := o.type) hc hut huu hsrc hz hn hneed hlen hrn hro' hrn'
    obtain ⟨cc, rest, h1, h2, h3⟩ := hB hgt
    rw [go _ _ h3]
    have hxl : (xo ++ xn).length = n * sz + m * sz := by simp [hlo, hm0]
    obtain ⟨g1, g2⟩ := hS.newGrown hall (c := cc) (es := sz) (rest := rest) (el := e) (by rw [hxl, h2]; exact cap_arith n m cc sz h1) (by rw [hxl, ← Nat.add_mul]; exact Nat.mul_le_mul_right _ h1) w.drew rfl hS.drew
    rw [appNew_eq] at h
    exact ⟨_, _, E.both (w.heap.size, 0) cc, R, List.prefix_rfl, h, E.le_both _ _, g1, g2, slice_u_den hS h1⟩
  rcases den_slice_inv hys with ⟨rfl, rfl, rfl, rfl⟩ | ⟨p, ad, cp, rfl, had, hcp, hncp, rfl⟩
  · change (bif_ (Nat.ble (0 + m) 0) (appIn st k sz 0 (0 + m) 0 new none) (appNew st k sz (0 + m) (old ++ new))).holds Θ E.va R at h
    rw [ble_iff] at h
    by_cases c : 0 + m ≤ 0
    · rw [decide_eq_true c] at h
      have hm00 : m = 0 := by omega
      subst hm00
      obtain ⟨hA, _⟩ := run_append (ty := o.type) hc hut huu hsrc hz hn hneed hlen hrn hro' hrn'
      rw [go _ _ (hA c w rfl)]
      exact .now h hS rfl
    · rw [decide_eq_false c] at h
      exact grown 0 none rfl c h
  · obtain ⟨hA, hB⟩ := run_append (ty := o.type) hc hut huu hsrc hz hn hneed hlen hrn hro' hrn'
    cases c with
    | t _ => cases hcp
    | k cc =>
      simp only [cden, Option.some.injEq] at hcp
      subst hcp
      change (bif_ (Nat.ble (n + m) cc) (appIn st k sz n (n + m) cc new (some p)) (appNew st k sz (n + m) (old ++ new))).holds Θ E.va R at h
      rw [ble_iff] at h
      by_cases c : n + m ≤ cc
      · rw [decide_eq_true c] at h
        obtain ⟨b, off⟩ := p
        cases b with
        | g _ => exact h.elim
        | a _ => exact h.elim
        | r b =>
          obtain ⟨st', w', g1, g2, g3, g4⟩ := storeCells_sound hS h hxn (aden_add had (n * sz))
          rw [go _ _ (hA c w' g2)]
          refine ⟨_, st', E, R, List.prefix_rfl, g1, .refl E, g3, g4, ?_⟩
          simp only [AV.den, had, cden]
          rw [if_pos c]
      · rw [decide_eq_false c] at h
        exact grown cc (some ad) rfl c h
    | u i sub =>
      obtain ⟨b, off⟩ := p
      cases b with
      | g _ => exact h.elim
      | a _ => exact h.elim
      | r id =>
        obtain ⟨c0, hc0, hsub, hcp'⟩ : ∃ c0, E.caps[i]? = some c0 ∧ sub ≤ c0 ∧ cp = c0 - sub := by
          simp only [cden] at hcp
          cases hc0 : E.caps[i]? with
          | none => rw [hc0] at hcp; cases hcp
          | some c0 =>
            rw [hc0] at hcp
            simp only at hcp
            split at hcp
            · cases hcp; exact ⟨c0, rfl, by assumption, rfl⟩
            · cases hcp
        change (bif_ (Nat.ble (n + m) (knownU sz i sub n st (some ⟨.r id, off⟩))) (storeCells st id (Nat.add off (Nat.mul n sz)) new fun st => k (.slice (some ⟨.r id, off⟩) (n + m) (.u i sub)) st) _).holds Θ E.va R at h
        rw [ble_iff] at h
        have hkn := knownU_ok hS (es := sz) (i := i) (sub := sub) (n := n) (a := some ⟨.r id, off⟩) hc0 (by omega)
        by_cases c : n + m ≤ knownU sz i sub n st (some ⟨.r id, off⟩)
        · rw [decide_eq_true c] at h
          have hfit : n + m ≤ cp := by omega
          obtain ⟨st', w', g1, g2, g3, g4⟩ := storeCells_sound hS h hxn (aden_add had (n * sz))
          rw [go _ _ (hA hfit w' g2)]
          refine ⟨_, st', E, R, List.prefix_rfl, g1, .refl E, g3, g4, ?_⟩
          simp only [AV.den, had, hcp]
          rw [if_pos hfit]
        · rw [decide_eq_false c] at h
          obtain ⟨b, hb', h⟩ := vbind_inv h
          obtain ⟨hcond2, h⟩ := vif_inv h
          simp only [Bool.and_eq_true, beq_iff, ble_iff, decide_eq_true_eq] at hcond2
          obtain ⟨k1, k2, k3, k4, k5, k6⟩ := hcond2
          rw [natMul] at k3
          rw [natAdd, natMul] at k6
          obtain ⟨q, hmid, had'⟩ := aden_r had
          obtain ⟨idr, sh⟩ := q
          subst had'
          obtain ⟨cs, el, fr, hh, hr⟩ := blk_of hS hb' hmid
          obtain ⟨c1, hc1, hroom, _⟩ := hr.cap i k1
          rw [hc0] at hc1; cases hc1
          unfold appU at h
          rw [Tr.setK_eq, putsK_eq, natK_eq, natK_eq, natK_eq, Tr.setK_eq, Tr.setK_eq, natK_eq] at h
          have hget : ∀ j, (((killOthers st.heap id (famOf st b id)).set id (some ⟨Nat.add off (Nat.mul n sz), cutTr b.cells (Nat.sub b.sz (Nat.add off (Nat.mul n sz))) (Nat.add off (Nat.mul n sz)), [], 0, b.fam, b.cv, b.es⟩)).set st.n
              (some ⟨lenL (old ++ new), puts (old ++ new) 0 .nil, [], 0, b.fam, Nat.succ st.nc, sz⟩)).get j =
              if j = st.n then some ⟨lenL (old ++ new), puts (old ++ new) 0 .nil, [], 0, b.fam, Nat.succ st.nc, sz⟩ else if j = id then some ⟨off + n * sz, cutTr b.cells (b.sz - (off + n * sz)) (off + n * sz), [], 0, b.fam, b.cv, b.es⟩
              else if j ∈ famOf st b id then none else st.heap.get j := by
            intro j
            rw [Tr.get_set, Tr.get_set]
            by_cases e1 : st.n = j
            · subst e1; simp
            · rw [if_neg e1, if_neg (show ¬ j = st.n from fun h => e1 h.symm)]
              by_cases e2 : id = j
              · subst e2; rw [if_pos rfl, if_pos rfl]; rfl
              · rw [if_neg e2, if_neg (show ¬ j = id from fun h => e2 h.symm), killOthers_get]
                by_cases e3 : j ∈ famOf st b id
                · rw [if_pos ⟨e3, fun h => e2 h.symm⟩, if_pos e3]
                · rw [if_neg (fun h => e3 h.1), if_neg e3]
          have hids := hS.ids id _ hmid
          have hxl : (xo ++ xn).length = n * sz + m * sz := by simp [hlo, hm0]
          by_cases hin : n + m ≤ cp
          · clear hB
            have hmul : (sub + n + m) * sz ≤ c0 * sz := Nat.mul_le_mul_right _ (by omega)
            have hfit : off + sh + n * sz + m * sz ≤ cs.size := by
              rw [Nat.add_mul, Nat.add_mul] at hmul
              rw [k2] at hroom; omega
            have hst := run_storeCells_free X.P idr (off + sh + n * sz) el fr xn 0 cs w hh hr.free' (by rw [hm0]; omega) (denL_one (allOne_mem k4) hxn)
            simp only [Nat.add_zero] at hst
            have hadd : (⟨idr, off + sh, none⟩ : Addr).add (n * sz) = ⟨idr, off + sh + n * sz, none⟩ := add_eq _ _ _
            have hrun := hA hin _ (by simp only []; rw [hadd]; exact hst)
            rw [go _ _ hrun]
            have hsz2 : (cs.toList.take (off + sh + n * sz) ++ xn ++ cs.toList.drop (off + sh + n * sz + xn.length)).toArray.size = cs.size := by
              simp only [List.size_toArray, List.length_append, List.length_take, List.length_drop, Array.length_toList]; omega
            have hspl : ∀ i, (cs.toList.take (off + sh + n * sz) ++ xn ++ cs.toList.drop (off + sh + n * sz + xn.length)).toArray[i]? = if off + sh + n * sz ≤ i ∧ i < off + sh + n * sz + xn.length then xn[i - (off + sh + n * sz)]? else cs[i]? := by
              intro i; rw [splice_get _ _ _ _ (by simp; omega)]; simp
            have hrow := setRow_heap w idr cs (cs.toList.take (off + sh + n * sz) ++ xn ++ cs.toList.drop (off + sh + n * sz + xn.length)).toArray el fr hh
            obtain ⟨g1, g2⟩ := shared hS hb' hmid hall (c2 := cp) (es := sz) (start := off + n * sz) (id2 := idr) (sh2 := off + sh) k6 hids.1 (by rw [Go.Sy.setRow_size]; exact hids.2) (by rw [Go.Sy.setRow_size]; exact Nat.le_refl _) (hS.kept.setRow hids.1 _) (fun j hj _ => Go.Sy.setRow_other _ _ _ hj)
              (fun j bj q hj hf hq => hS.fams j id bj b q.1 q.2 idr sh hj hb' hq hmid hf) hh hr hrow hsz2 (fun i hi => by rw [hspl, if_neg (by omega)]) hrow (by rw [hsz2]; exact hr.free)
              (by rw [hsz2, hxl]; omega) (fun i y hy => by
                rw [hspl]
                by_cases c : i < n * sz
                · rw [if_neg (by omega)]
                  rw [List.getElem?_append_left (by omega)] at hy
                  have hn0 : 0 < n := by
                    rcases Nat.eq_zero_or_pos n with e | e
                    · subst e; simp at c
                    · exact e
                  have h5 := hcell _ _ _ rfl hn0 i y hy
                  rw [add_eq] at h5
                  simp only [World.cell?, hh] at h5
                  rw [← h5]; simp; congr 1; omega
                · rw [List.getElem?_append_right (by omega)] at hy
                  have h5 := (List.getElem?_eq_some_iff.1 hy).1
                  rw [if_pos (by omega), ← hy]; congr 1; omega) (by
                rw [hsz2]
                have : (cp + sub) * sz = c0 * sz := by congr 1; omega
                rw [Nat.add_mul] at this
                rw [k2] at hroom; omega) (by rw [hxl, ← Nat.add_mul]; exact Nat.mul_le_mul_right _ hin) hget
            exact ⟨_, _, E.both (idr, off + sh) cp, R, List.prefix_rfl, h, E.le_both _ _, g1, g2, slice_u_den hS hin⟩
          · -- a new one
            obtain ⟨c2, rest, h1, h2, h3⟩ := hB hin
            rw [go _ _ h3]
            have hszr : ((xo ++ xn).toArray ++ rest).size = n * sz + m * sz + (c2 - (n + m)) * sz := by simp only [Array.size_append, List.size_toArray, hxl, h2]
            have halloc : ∀ j, j < w.heap.size → (w.drew.alloc (.cells ((xo ++ xn).toArray ++ rest) e)).heap[j]? = w.heap[j]? := fun j hj => Go.RowKit.Below.heap_alloc w.drew _ j hj
            obtain ⟨g1, g2⟩ := shared hS hb' hmid hall (c2 := c2) (es := sz) (start := off + n * sz) (id2 := w.heap.size) (sh2 := 0) k6 (fun hK => absurd (hS.klt' _ hK) (Nat.lt_irrefl _)) (w2 := w.drew.alloc (.cells ((xo ++ xn).toArray ++ rest) e)) (by simp) (by simp) (hS.drew.kept.alloc hS.klt' _) (fun j _ hj => halloc j hj)
              (fun j bj q hj hf hq => by have := (hS.ids j q hq).2; omega) hh hr (by rw [halloc _ hids.2]; exact hh) rfl (fun _ _ => rfl) (cs2 := (xo ++ xn).toArray ++ rest) (el2 := e) (fr2 := (0, 0)) (by show (w.heap.push _)[w.heap.size]? = _; simp) (.inl rfl)
              (by rw [hszr, hxl]; omega) (fun i y hy => by
                have := (List.getElem?_eq_some_iff.1 hy).1
                rw [Nat.add_zero, Array.getElem?_append_left (by simpa using this)]; simpa using hy) (by rw [hszr, Nat.add_zero]; exact cap_arith n m c2 sz h1) (by rw [hxl, ← Nat.add_mul]; exact Nat.mul_le_mul_right _ h1) hget
            exact ⟨_, _, E.both (w.heap.size, 0) c2, R, List.prefix_rfl, h, E.le_both _ _, g1, g2, slice_u_den hS h1⟩
theorem append_empty (hc : CxOK X K w0) {t u e ty : TypeId} {du : TypeDesc} {sz m : Nat} {z : List AV} {x x' : Addr} {yx : Value} (ht : X.P.underlying t = some (.slice e)) (hu : X.P.underlying u = some du) (hsrc : srcD du = true) (hz : X.cx.zero.get e = some z) (hs : X.cx.size.get e = some sz) (hm : 0 < m) (hneed : 0 + m ≤ 16777216) (hlen : ∀ w, (Builtin.lenOf yx).run X.P w = .ok m w) :
    (Builtin.append_ #[t, u] ty #[.slice (some x) 0 0, yx]).run X.P w = (Builtin.append_ #[t, u] ty #[.slice (some x') 0 0, yx]).run X.P w := by
  obtain ⟨ie, zv, h1, h2, h3, h4, h5, _⟩ := hc.zero e z hz
  have hm' : ¬ m = 0 := by omega
  have hnc := nextcap_le (show 0 < m by omega) (show m ≤ 16777216 by omega)
  have hb' : ¬ (281474976710656 < Builtin.nextslicecap m 0 * ie.bytes) := by
    have : Builtin.nextslicecap m 0 * ie.bytes ≤ 33554432 * 1048576 := Nat.mul_le_mul hnc h4
    omega
  have hmax' : ¬ (9223372036854775807 < (m : Int)) := by omega
  cases du <;> first | (cases hsrc; done) | simp [Builtin.append_, run_underlying ht, run_underlying hu, hc.size' hs, hlen, hm', typeInfo, h1, hb', hmax', Builtin.firstCells, loadCells, loadCellsFrom]
theorem append_out (hc : CxOK X K w0) (hS : StRel X K w0 E st w) {args : Array Operand} {tys : Array TypeId} {bs : List BO} {t u e : TypeId} {sz : Nat} {du : TypeDesc} {z : List AV} {b0 bx : BO} (ho : o.op = .call ⟨.builtin .append, args, tys⟩) (hb : cOs args.toList = some bs)
    (ht : getL 0 tys.toList = some t) (hu : getL 1 tys.toList = some u) (hdu : X.cx.und.get u = some du) (hsrc : srcD du = true) (hs0 : getL 0 bs = some b0) (hx : getL 1 bs = some bx) (hd : X.cx.und.get t = some (.slice e)) (hn : X.cx.size.get e = some sz) (hz : X.cx.zero.get e = some z) (hpos : 0 < sz)
    (h : (xAppend X.cx sz (ev tm bx) st k (ev tm b0)).holds Θ E.va R) : EffOut X K w0 Θ R E o tm st w k := by
  intro ρ hR
  obtain ⟨yx, hyx, hyx2⟩ := barg ho hb hR hx
  obtain ⟨ys, hys, hys2⟩ := barg ho hb hR hs0
  have ht' := tys_get ht
  have hu' := tys_get hu
  have hut := hc.und t _ hd
  have huu := hc.und u _ hdu
  have go : ∀ v w', (Builtin.append_ #[t, u] o.type #[ys, yx]).run X.P w = .ok v w' → (execOp ρ o).run X.P w = .ok (.value v) w' := by
    intro v w' hw'
    have e1 : (Builtin.append_ tys o.type (args.map ρ)) = (Builtin.append_ #[t, u] o.type #[ys, yx]) := by
      simp only [Builtin.append_, ht', hu', hys2, hyx2]
      rfl
    simp [execOp, ho, resolve, invoke, Go.builtin, e1, hw']
  unfold xAppend at h
  split at h
  case h_3 => exact h.elim
  · rename_i sa n c hev
    rw [hev] at hys
    exact append_core hc hS hdu hsrc hd hn hz hpos hyx hys go h
  · rename_i p i n d hev
    rw [hev] at hys
    obtain ⟨m, hm, h⟩ := vbind_inv h
    obtain ⟨new, hnew, h⟩ := vbind_inv h
    have hlen : ∀ w, (Builtin.lenOf yx).run X.P w = .ok m w := fun w => lenOf_sound hm hyx w
    obtain ⟨xn, hxn, hml, hrn, _⟩ := srcCells_sound hc hS hnew hyx hm (Nat.le_refl _)
    obtain ⟨xn', hxn', _, hrn', _⟩ := srcCells_sound hc hS.drew hnew hyx hm (Nat.le_refl _)
    rw [hxn] at hxn'; cases hxn'
    have hys0 := hys
    obtain ⟨x, c0, hx0, hc0, hle, rfl⟩ := den_sl0 hys
    rcases bif_inv h with ⟨e0, h⟩ | ⟨e0, h⟩
    · rw [beq_iff, decide_eq_true_eq] at e0
      subst e0
      have : xn = [] := List.eq_nil_of_length_eq_zero (by omega)
      subst this
      obtain ⟨hA, _⟩ := run_append (ty := o.type) (m := 0) (n := 0) (old := []) (new := []) hc hut huu hsrc hz hn (by omega) hlen hrn (ad := some (if c0 = n then x else x.add d)) (cap := c0 - n) (by simp [Builtin.firstCells, loadCells, loadCellsFrom]) hrn'
      rw [go _ _ (hA (by omega) w (by simp [Go.storeCells]))]
      exact .now h hS hys0
    · have hmp : ¬ m = 0 := by
        intro e; subst e; cases e0
      have hys' : (AV.slice (some ⟨p.b, Nat.add p.off d⟩) 0 (.u i n)).den E = some (.slice (some (x.add d)) 0 (c0 - n)) := by
        have : aden E ⟨p.b, Nat.add p.off d⟩ = some (x.add d) := aden_add (b := p.b) (off := p.off) hx0 d
        simp only [AV.den, this, cden, hc0]
        rw [if_pos hle]; simp
      have hneed : 0 + m ≤ 16777216 := by
        obtain ⟨_, _, h⟩ := vbind_inv h
        rw [natK_eq] at h
        obtain ⟨hcond, _⟩ := vif_inv h
        rw [ble_iff, decide_eq_true_eq, natMul, natAdd] at hcond
        have : (0 + m) * 1 ≤ (0 + m) * (sz + 1) := Nat.mul_le_mul_left _ (by omega)
        have h2 : (0 + m) * (sz + 1) ≤ 16777216 := hcond
        omega
      have hback : (vbind (lenOf (ev tm bx)) fun m => vbind (srcCells X.cx st sz m (ev tm bx)) fun new => vbind (srcCells X.cx st sz 0 (.slice (some ⟨p.b, Nat.add p.off d⟩) 0 (.u i n))) fun old =>
          natK (Nat.add 0 m) fun len => vif (Nat.ble (Nat.mul len (Nat.succ sz)) 16777216) (append st k sz (some ⟨p.b, Nat.add p.off d⟩) 0 len new old (.u i n))).holds Θ E.va R := by
        rw [hm]
        show (vbind (srcCells X.cx st sz m (ev tm bx)) _).holds Θ E.va R
        rw [hnew]
        exact h
      by_cases e : c0 = n
      · refine append_core hc hS hdu hsrc hd hn hz hpos hyx hys' (fun v w' hr => go v w' ?_) hback
        rw [if_pos e, ← hr]
        have : c0 - n = 0 := by omega
        rw [this]
        exact append_empty hc hut huu hsrc hz hn (by omega) hneed hlen
      · rw [if_neg e] at go
        exact append_core hc hS hdu hsrc hd hn hz hpos hyx hys' go hback
end
end Go.Sy
/-! Bytes and texts. -/
namespace Go.Sy
section
variable {X : Tabs} {K : Nat → Prop} {w0 : World} {E : Env} {st : St} {w : World} {Θ : Pred} {R : List Back} {tm : Tm} {k : Kt} {o : Oper}

theorem cellNats_inv : ∀ {l : List AV} {ns : List Nat}, cellNats l = some ns → l = byteAVs ns
  | [], ns, h => by cases h; rfl
  | v :: r, ns, h => by
    unfold cellNats at h
    split at h
    · rename_i e; cases e
    · rename_i n r' e
      obtain ⟨l, hl, h⟩ := obind_inv h
      cases h
      cases e
      rw [cellNats_inv hl]; rfl
    · cases h
theorem bytes_lt : ∀ {ns : List Nat} {xs : List Value}, denL E (byteAVs ns) = some xs → (∀ c ∈ ns, c < 256) ∧ xs = (ns.map (Int.ofNat)).map (Value.int .u8)
  | [], xs, h => by rw [denL_nil.1 h]; exact ⟨by simp, rfl⟩
  | n :: ns, xs, h => by
    obtain ⟨a, b, ha, hb, rfl⟩ := denL_cons.1 h
    obtain ⟨h1, h2⟩ := bytes_lt hb
    obtain ⟨h3, rfl⟩ := den_int ha
    have hn : n < 256 := by simpa [modOf] using h3
    refine ⟨fun c hc => ?_, ?_⟩
    · rcases List.mem_cons.1 hc with rfl | hc
      · exact hn
      · exact h1 c hc
    · rw [h2, sgn_nat .u8 (by simpa [halfOf] using hn)]; rfl
theorem foldl_bytes : ∀ (ns : List Nat) (l : List Nat), (ns.map Int.ofNat).foldl (fun r n => r.push (UInt8.ofNat n.toNat)) (bytesOf l) = bytesOf (l ++ ns)
  | [], l => by simp
  | n :: ns, l => by
    simp only [List.map_cons, List.foldl_cons]
    have : (bytesOf l).push (UInt8.ofNat (Int.ofNat n).toNat) = bytesOf (l ++ [n]) := by
      unfold bytesOf ByteArray.push
      simp
    rw [this, foldl_bytes ns (l ++ [n])]
    simp
theorem u8_of {und : Tr TypeDesc} {e : TypeId} (h : isU8 und e = true) : und.get e = some (.int .u8) := by
  unfold isU8 at h
  cases hd : und.get e with
  | none => rw [hd] at h; cases h
  | some d =>
    rw [hd] at h
    cases d <;> first | (cases h; done) | skip
    rename_i kd
    cases kd <;> first | (cases h; done) | rfl
theorem shape_alloc (w : World) (ys : Array Value) (e : TypeId) (fr : Nat × Nat) : (w.alloc (.cells ys e fr)).shape? w.heap.size = some (e, ys.size) := by
  have : (w.alloc (.cells ys e fr)).heap[w.heap.size]? = some (.cells ys e fr) := World.alloc_heap_new _ _
  unfold World.shape?
  rw [this]
theorem bytes_nil : ByteArray.empty = bytesOf [] := rfl
theorem run_stringToBytes {P : Program} (w : World) (e : TypeId) (s : List Nat) (hs : ∀ c ∈ s, c < 256) : ∃ (c : Nat) (rest : Array Value), s.length ≤ c ∧ rest.size = c - s.length ∧
    (Conv.stringToBytes e (bytesOf s)).run P w = .ok (.slice (some ⟨w.heap.size, 0, none⟩) s.length c) ((w.drew.alloc (.cells ((s.map fun (c : Nat) => Value.int .u8 (c : Int)).toArray ++ rest) e)).freeze ⟨w.heap.size, ((s.map fun (c : Nat) => Value.int .u8 (c : Int)).toArray ++ rest).size, none⟩ 1) := by
  have hf : (Question.appendCap s.length 0 e).forced = false := rfl
  refine ⟨(Question.appendCap s.length 0 e).cut (w.tape w.drawn (.appendCap s.length 0 e)), Array.replicate ((Question.appendCap s.length 0 e).cut (w.tape w.drawn (.appendCap s.length 0 e)) - s.length) (.int .u8 0), ?_, by simp, ?_⟩
  · simp only [Question.cut]; omega
  · have hsz := bytesOf_size s
    have hm := bytes_map hs
    have hshape := shape_alloc w.drew ((s.map fun (c : Nat) => Value.int .u8 (c : Int)).toArray ++ Array.replicate ((Question.appendCap s.length 0 e).cut (w.tape w.drawn (.appendCap s.length 0 e)) - s.length) (.int .u8 0)) e (0, 0)
    change World.shape? _ w.heap.size = _ at hshape
    simp [Conv.stringToBytes, hsz, hm, hf, newRow, markStringish, hshape]
theorem xOfStr_eq (st : St) (k : Kt) (n : Nat) (s : List Nat) : xOfStr st k n s = k (.slice (some ⟨.r st.n, 0⟩) n (.u st.nc 0)) ((⟨st.n, Nat.succ st.nc, st.heap, st.live, st.x⟩ : St).blk ⟨lenL (byteAVs s), puts (byteAVs s) 0 .nil, [], 0, st.n, Nat.succ st.nc, 1⟩) := by
  obtain ⟨m, nc, h, lv, x⟩ := st
  unfold xOfStr
  simp only
  rw [natK_eq, newCells_eq]
theorem conv_out (hc : CxOK X K w0) (hS : StRel X K w0 E st w) {s d : TypeId} {sd dd : TypeDesc} {x : Operand} {b : BO} (hb : cO x = some b) (hs : X.cx.und.get s = some sd) (hd : X.cx.und.get d = some dd) (ho : o.op = .convert s d x) (hne : (isEffC sd dd && not (Nat.beq s d)) = true) (hO : Oks E tm)
    (h : (conv1 X.cx st k (ebOf X.cx.und sd dd) (Nat.beq s d) dd (ev tm b)).holds Θ E.va R) : EffOut X K w0 Θ R E o tm st w k := by
  have hx0 : x ∈ o.op.operands.toList := by rw [ho]; simp [Op.operands]
  have hus := hc.und s sd hs
  have hud := hc.und d dd hd
  have hov := hO.ev hb
  rw [Bool.and_eq_true] at hne
  obtain ⟨hne, hsm⟩ := hne
  have hsm' : Nat.beq s d = false := by simpa using hsm
  rw [hsm'] at h
  intro ρ hR
  have hx := hR.get hx0 hb
  unfold conv1 at h
  split at h
  · cases sd <;> cases hne
  · split at h
    · rename_i n s' hev
      rw [hev] at hx
      obtain ⟨_, _, e0⟩ := den_str hx
      have hrun : (execOp ρ o).run X.P w = .ok (.value (ρ x)) w := by
        rw [run_conv ho, e0]
        unfold convert
        simp only [Sem.run_bind, run_underlying hus, run_underlying hud, Result.andThen_ok]
        cases sd <;> simp
      rw [hrun]
      exact .now h hS hx
    · rename_i j u hev
      rw [hev] at hov hx
      obtain ⟨u', hu', h⟩ := vbind_inv h
      obtain ⟨hlt, h⟩ := vif_inv h
      obtain ⟨j', e1, e2, _⟩ := natOf_inv hu' hov
      cases e1
      rw [blt_iff, decide_eq_true_eq] at hlt
      obtain ⟨_, e0⟩ := den_int hx
      have hrun : (execOp ρ o).run X.P w = .ok (.value (.string (bytesOf [u]))) w := by
        rw [run_conv ho, e0, e2]
        unfold convert
        simp only [Sem.run_bind, run_underlying hus, run_underlying hud, Result.andThen_ok]
        cases sd <;> simp [Conv.intToString, encode_small hlt]
      rw [hrun]
      exact .now h hS (den_str_of (n := 1) (s := [u]) rfl (by intro c hc; rw [List.mem_singleton.1 hc]; omega))
    · have he := (vif_inv h).1
      replace h := (vif_inv h).2
      obtain ⟨e, rfl, he8⟩ : ∃ e, sd = .slice e ∧ isU8 X.cx.und e = true := by
        cases sd <;> first | (cases he; done) | exact ⟨_, rfl, he⟩
      have he8 := hc.und e _ (u8_of he8)
      have go : ∀ a l c v, ρ x = .slice a l c → (Conv.bytesToString (.slice a l c)).run X.P w = .ok v w → (execOp ρ o).run X.P w = .ok (.value v) w := by
        intro a l c v e0 hv
        rw [run_conv ho, e0, Sem.run_bind, run_convert_bytes_string w s d e a l c hus he8 hud, hv]; rfl
      unfold xToStr at h
      clear hov
      split at h
      · rename_i hev
        rw [hev] at hx
        rcases den_slice_inv hx with ⟨_, _, _, e0⟩ | ⟨p, ad, cp, e1, _⟩
        · rw [go _ _ _ (.string (bytesOf [])) e0 (by rw [← bytes_nil]; rfl)]
          exact .now h hS (den_str_of rfl (by simp))
        · cases e1
      · rename_i hev
        rw [hev] at hx
        obtain ⟨y, c, _, _, _, e0⟩ := den_sl0 hx
        have hrun : ∀ (q : Addr) (n : Nat), (Conv.bytesToString (.slice (some q) 0 n)).run X.P w = .ok (.string (bytesOf [])) w := fun q n => by
          have := run_bytesToString (P := X.P) w q 0 n [] (run_loadCells_list (P := X.P) (w := w) q [] (fun i x hx => by simp at hx))
          simp only [List.foldl_nil] at this
          rw [← bytes_nil]; exact this
        rw [go _ _ _ (.string (bytesOf [])) e0 (hrun _ _)]
        exact .now h hS (den_str_of rfl (by simp))
      · rename_i a n c hev
        rw [hev] at hx
        obtain ⟨l, hl, h⟩ := vbind_inv h
        obtain ⟨ns, hns, h⟩ := vbind_inv h
        rcases den_slice_inv hx with ⟨e1, _⟩ | ⟨p, ad, cp, e1, had, _, _, e0⟩
        · cases e1
        · cases e1
          obtain ⟨xs, h1, h2, h3, _⟩ := cells_sound hc hS hl had
          rw [cellNats_inv hns] at h1
          obtain ⟨h4, h5⟩ := bytes_lt h1
          rw [h5] at h3
          have hlen : n = ns.length := by rw [← h2, h5]; simp
          have hrun := run_bytesToString (P := X.P) w ad n cp (ns.map Int.ofNat) h3
          have e2 : (ns.map Int.ofNat).foldl (fun r n => r.push (UInt8.ofNat n.toNat)) ByteArray.empty = bytesOf ns := by
            have := foldl_bytes ns []
            rw [bytes_nil, this]; simp
          rw [e2] at hrun
          rw [go _ _ _ _ e0 hrun]
          exact .now h hS (den_str_of hlen h4)
      · exact h.elim
  · rename_i e
    split at h
    · rename_i n s' hev
      rw [hev] at hx
      obtain ⟨he, h⟩ := vif_inv h
      obtain ⟨hn, hs', e0⟩ := den_str hx
      rw [Bool.and_eq_true] at he
      have hebof : ebOf X.cx.und sd (.slice e) = isU8 X.cx.und e := by cases sd <;> rfl
      have he8 : isU8 X.cx.und e = true := hebof ▸ he.1
      have he8 := hc.und e _ (u8_of he8)
      obtain ⟨c, rest, h1, h2, h3⟩ := run_stringToBytes (P := X.P) w e s' hs'
      have hrun : ∀ v w', (Conv.stringToBytes e (bytesOf s')).run X.P w = .ok v w' → (execOp ρ o).run X.P w = .ok (.value v) w' := by
        intro v w' hv
        rw [run_conv ho, e0]
        unfold convert
        simp only [Sem.run_bind, run_underlying hus, run_underlying hud, Result.andThen_ok]
        cases sd <;> simp [run_underlying he8, hv]
      rw [hrun _ _ h3]
      rw [xOfStr_eq] at h
      obtain ⟨g1, g2⟩ := hS.newGrown (denL_bytes hs') (c := c) (es := 1) (rest := rest) (el := e) (by simp [h2]; omega) (by simp; exact h1) w.drew rfl hS.drew
      have hnk : ¬ K w.heap.size := fun hK => absurd (hS.klt' _ hK) (Nat.lt_irrefl _)
      have g3 := g1.freeze (id := w.heap.size) hnk (cs := (s'.map fun (c : Nat) => Value.int .u8 (c : Int)).toArray ++ rest) (el := e) (fr := (0, 0)) (by show (w.heap.push _)[w.heap.size]? = _; simp)
      exact ⟨_, _, E.both (w.heap.size, 0) c, R, List.prefix_rfl, h, E.le_both _ _, g3, g2, by rw [hn]; exact slice_u_den hS h1⟩
    · obtain ⟨he, _⟩ := vif_inv h
      simp at he
    · exact h.elim
  · exact h.elim
end
end Go.Sy
/-! Maps. -/
namespace Go.Sy
section
variable {X : Tabs} {K : Nat → Prop} {w0 : World} {E : Env} {st : St} {w : World} {Θ : Pred} {R : List Back} {tm : Tm} {k : Kt} {o : Oper}

theorem run_getO {P : Program} {r : Nat} {ob : Obj} (h : w.heap[r]? = some ob) (hn : ∀ a b c, ob ≠ .cells a b c) : (getObj r).run P w = .ok ob w := by
  simp only [getObj, Sem.run, h]
theorem run_getMap {P : Program} {r : Nat} {ms : Array MapEntry} {c : Nat} (h : w.heap[r]? = some (.map ms c)) : (getObj r).run P w = .ok (.map ms c) w := run_getO h (by intros; exact Obj.noConfusion)
theorem run_setMap {P : Program} {r : Nat} {ms : Array MapEntry} {c : Nat} (o : Obj) (h : w.heap[r]? = some (.map ms c)) : (setObj r o).run P w = .ok () (w.putObj r o) := by simp [setObj, Sem.run, h, World.putObj]
theorem mapOf_inv {r : Nat} {m : List (AV × AV × Nat) × Nat} (h : mapOf st r = some m) : st.x.objs.get r = some (.map m.1 m.2) := by
  obtain ⟨o, ho, h⟩ := obind_inv h
  cases o <;> cases h
  exact ho
theorem obj_at (hS : StRel X K w0 E st w) {r : Nat} {o : Ob} (h : st.x.objs.get r = some o) {id : Nat} (hm : E.m[r]? = some (some (id, 0))) : ∃ ob, w.heap[id]? = some ob ∧ ObRel X E o ob := by
  rcases (hS.objs r o h).2 with h1 | ⟨id', ob, h1, h2, h3⟩
  · rw [hm] at h1; cases h1
  · rw [hm] at h1; cases h1; exact ⟨ob, h2, h3⟩
theorem map_at (hS : StRel X K w0 E st w) {r : Nat} {es : List (AV × AV × Nat)} {c : Nat} (h : st.x.objs.get r = some (.map es c)) {id : Nat} (hm : E.m[r]? = some (some (id, 0))) : ∃ ms, w.heap[id]? = some (.map ms c) ∧ EntsRel E es ms.toList := by
  obtain ⟨ob, h1, h2⟩ := obj_at hS h hm
  cases ob <;> simp only [ObRel] at h2
  obtain ⟨rfl, h2⟩ := h2
  exact ⟨_, h1, h2⟩

theorem EntsRel.length : ∀ {l : List (AV × AV × Nat)} {r : List MapEntry}, EntsRel E l r → l.length = r.length
  | [], [], _ => rfl
  | _ :: _, _ :: _, ⟨_, h⟩ => by simp [EntsRel.length h]
  | [], _ :: _, h => h.elim
  | _ :: _, [], h => h.elim
theorem EntsRel.get : ∀ {l : List (AV × AV × Nat)} {r : List MapEntry}, EntsRel E l r → ∀ {i : Nat} {e : AV × AV × Nat}, l[i]? = some e → ∃ m, r[i]? = some m ∧ EntRel E e m
  | [], [], _, i, e, h => by simp at h
  | a :: l, b :: r, ⟨h1, h2⟩, i, e, h => by
    cases i with
    | zero => simp at h; subst h; exact ⟨b, rfl, h1⟩
    | succ i => simpa using EntsRel.get h2 (i := i) (by simpa using h)
  | [], _ :: _, h, _, _, _ => h.elim
  | _ :: _, [], h, _, _, _ => h.elim
theorem EntsRel.set : ∀ {l : List (AV × AV × Nat)} {r : List MapEntry}, EntsRel E l r → ∀ (i : Nat) {e : AV × AV × Nat} {m : MapEntry}, EntRel E e m → EntsRel E (l.set i e) (r.set i m)
  | [], [], _, _, _, _, _ => trivial
  | a :: l, b :: r, ⟨h1, h2⟩, i, e, m, h => by
    cases i with
    | zero => exact ⟨h, h2⟩
    | succ i => exact ⟨h1, EntsRel.set h2 i h⟩
  | [], _ :: _, h, _, _, _, _ => h.elim
  | _ :: _, [], h, _, _, _, _ => h.elim
theorem EntsRel.push : ∀ {l : List (AV × AV × Nat)} {r : List MapEntry}, EntsRel E l r → ∀ {e : AV × AV × Nat} {m : MapEntry}, EntRel E e m → EntsRel E (l ++ [e]) (r ++ [m])
  | [], [], _, _, _, h => ⟨h, trivial⟩
  | _ :: _, _ :: _, ⟨h1, h2⟩, _, _, h => ⟨h1, EntsRel.push h2 h⟩
  | [], _ :: _, h, _, _, _ => h.elim
  | _ :: _, [], h, _, _, _ => h.elim
theorem EntsRel.erase : ∀ {l : List (AV × AV × Nat)} {r : List MapEntry}, EntsRel E l r → ∀ (i : Nat), EntsRel E (l.eraseIdx i) (r.eraseIdx i)
  | [], [], _, _ => trivial
  | a :: l, b :: r, ⟨h1, h2⟩, i => by
    cases i with
    | zero => exact h2
    | succ i => exact ⟨h1, EntsRel.erase h2 i⟩
  | [], _ :: _, h, _ => h.elim
  | _ :: _, [], h, _ => h.elim

theorem bytesOf_beq {s t : List Nat} (hs : ∀ c ∈ s, c < 256) (ht : ∀ c ∈ t, c < 256) : (bytesOf s == bytesOf t) = leqL s t := by
  rw [beq_toListBytes, leqL_eq, bytesOf_toList, bytesOf_toList]
  by_cases e : s = t
  · subst e; simp
  · rw [decide_eq_false e, beq_eq_false_iff_ne]; exact fun h => e (map_u8_inj hs ht h)
theorem sameK_sound {kt : TypeDesc} {a b : AV} {r : Bool} (h : sameK kt a b = some r) {x y : Value} (hx : a.den E = some x) (hy : b.den E = some y) : Instr.sameNow kt x y = some r ∧ (r = true → ∀ n, Instr.sameBits n y x = true) := by
  unfold sameK at h
  split at h
  · split at h
    · rename_i j u k v
      obtain ⟨h1, h2⟩ := bif_some h
      have := kbeq_eq h1
      subst this
      cases h2
      obtain ⟨hu, rfl⟩ := den_int hx
      obtain ⟨hv, rfl⟩ := den_int hy
      have e : (sgn j u == sgn j v) = Nat.beq u v := by
        rw [beq_iff]
        by_cases e : u = v
        · subst e; simp
        · rw [decide_eq_false e]
          simpa using fun h => e (sgn_inj j hu hv h)
      refine ⟨by simp [Instr.sameNow, e], fun hr n => ?_⟩
      rw [beq_iff, decide_eq_true_eq] at hr
      subst hr
      cases n <;> simp [Instr.sameBits]
    · cases h
  · split at h
    · rename_i n s m t
      cases h
      obtain ⟨_, hs, rfl⟩ := den_str hx
      obtain ⟨_, ht, rfl⟩ := den_str hy
      refine ⟨by simp [Instr.sameNow, bytesOf_beq hs ht], fun hr n => ?_⟩
      rw [leqL_eq, decide_eq_true_eq] at hr
      subst hr
      have e : (bytesOf s == bytesOf s) = true := by rw [beq_toListBytes]; simp
      cases n <;> simp [Instr.sameBits, e]
    · cases h
  · split at h
    · rename_i c d
      cases h
      cases hx; cases hy
      refine ⟨by cases c <;> cases d <;> rfl, fun hr n => ?_⟩
      rw [bbeq_eq, decide_eq_true_eq] at hr
      subst hr
      cases n <;> simp [Instr.sameBits]
    · cases h
  · cases h
/-- The place of a key. -/
theorem findM_sound {kt : TypeDesc} {kv : AV} {key : Value} (hk : kv.den E = some key) : ∀ {es : List (AV × AV × Nat)} {ms : List MapEntry} {i : Nat} {r : Option (Nat × AV × Nat)}, EntsRel E es ms → findM kt kv es i = some r →
    ∃ r', Instr.findNow kt key ms i = some r' ∧ ((r = none ∧ r' = none) ∨ ∃ j e m, r = some (i + j, e.2) ∧ es[j]? = some e ∧ ms[j]? = some m ∧ EntRel E e m ∧ r' = some (i + j, m.val) ∧ ∀ n, Instr.sameBits n m.key key = true)
  | [], [], i, r, _, h => by cases h; exact ⟨none, rfl, .inl ⟨rfl, rfl⟩⟩
  | e :: es, m :: ms, i, r, ⟨h1, h2⟩, h => by
    change obind (sameK kt kv e.1) (fun b => Bool.rec (findM kt kv es (Nat.succ i)) (some (some (i, e.2))) b) = some r at h
    obtain ⟨b, hb, h⟩ := obind_inv h
    obtain ⟨h3, h4⟩ := sameK_sound hb hk h1.1
    cases b with
    | true =>
      cases h
      refine ⟨some (i, m.val), by simp [Instr.findNow, h3], .inr ⟨0, e, m, rfl, rfl, rfl, h1, rfl, h4 rfl⟩⟩
    | false =>
      obtain ⟨r', g1, g2⟩ := findM_sound hk h2 h
      refine ⟨r', by simp [Instr.findNow, h3, g1], ?_⟩
      rcases g2 with g2 | ⟨j, e', m', q1, q2, q3, q4, q5, q6⟩
      · exact .inl g2
      · exact .inr ⟨j + 1, e', m', by rw [q1]; simp; omega, by simpa using q2, by simpa using q3, q4, by rw [q5]; simp; omega, q6⟩
  | [], _ :: _, _, _, h, _ => h.elim
  | _ :: _, [], _, _, h, _ => h.elim

theorem keyD_inv {t : TypeId} {p : TypeDesc × TypeId} (hc : CxOK X K w0) (h : keyD X.cx.und t = some p) : ∃ kt, X.P.underlying t = some (.map kt p.2) ∧ X.P.underlying kt = some p.1 ∧ keyKind p.1 = true := by
  obtain ⟨d, hd, h⟩ := obind_inv h
  obtain ⟨q, hq, h⟩ := obind_inv h
  obtain ⟨kd, hkd, h⟩ := obind_inv h
  obtain ⟨h1, h2⟩ := bif_some h
  cases h2
  cases d <;> cases hq
  exact ⟨_, hc.und t _ hd, hc.und _ _ hkd, h1⟩
theorem run_checkKey {P : Program} {kt : TypeId} {d : TypeDesc} (hu : P.underlying kt = some d) (hk : keyKind d = true) (b : Bool) (key : Value) (w : World) : (Instr.checkKey b 10000 kt key).run P w = .ok () w := by
  have : Instr.checkKey b (9999 + 1) kt key = Instr.checkKey b 10000 kt key := rfl
  rw [← this, Instr.checkKey]
  cases d <;> first | (cases hk; done) | simp [run_underlying hu]
theorem run_findKey {P : Program} {kt : TypeId} {d : TypeDesc} (hu : P.underlying kt = some d) {key : Value} {es : List MapEntry} {r : Option (Nat × Value)} (h : Instr.findNow d key es 0 = some r) (w : World) : (Instr.findKey kt key es).run P w = .ok r w := by
  simp [Instr.findKey, run_underlying hu, h]
theorem run_keyStays {P : Program} {old new : Value} (h : Instr.sameBits 10000 old new = true) (w : World) : (Instr.keyThatStays old new).run P w = .ok new w := by
  simp [Instr.keyThatStays, h]
end
end Go.Sy
/-! Operations on maps. -/
namespace Go.Sy
section
variable {X : Tabs} {K : Nat → Prop} {w0 : World} {E : Env} {st : St} {w : World} {Θ : Pred} {R : List Back} {tm : Tm} {k : Kt} {o : Oper}

theorem den_map {r : Option Nat} {y : Value} (h : (AV.map r).den E = some y) : (r = none ∧ y = .map none) ∨ ∃ j id, r = some j ∧ E.m[j]? = some (some (id, 0)) ∧ y = .map (some id) := den_map' h
theorem Out.setO {v : AV} {y : Value} {r id : Nat} {o o' : Ob} {ob ob' : Obj} (hS : StRel X K w0 E st w) (h : (k v (st.setO r o')).holds Θ E.va R) (hr : st.x.objs.get r = some o) (hm : E.m[r]? = some (some (id, 0))) (hh : w.heap[id]? = some ob) (hob : ObRel X E o ob) (ho : ObRel X E o' ob') (hv : v.den E = some y) :
    Out X K w0 Θ R E st k y (w.putObj id ob') := by
  obtain ⟨g1, g2⟩ := hS.putObj hr hm hh hob ho
  exact ⟨v, _, E, R, List.prefix_rfl, h, .refl E, g1, g2, hv⟩
theorem modify_set {α : Type} (f : α → α) {l : Array α} {i : Nat} {x : α} (h : l.toList[i]? = some x) : (l.modify i f).toList = l.toList.set i (f x) := by
  rw [Array.toList_modify]
  apply List.ext_getElem?
  intro j
  rw [List.getElem?_modify, List.getElem?_set]
  by_cases e : i = j
  · subst e
    have := (List.getElem?_eq_some_iff.1 h).1
    rw [Array.length_toList] at this
    have h2 : l[i] = x := by simpa using (List.getElem?_eq_some_iff.1 h).2
    simp [this, h2]
  · simp [e]

theorem putObj_self {r : Nat} {ob : Obj} (h : w.heap[r]? = some ob) : w.putObj r ob = w := by
  have : w.heap.setIfInBounds r ob = w.heap := by
    apply Array.ext_getElem?
    intro i
    rw [Array.getElem?_setIfInBounds]
    split
    · rename_i e; subst e; rw [h]; simp [(Array.getElem?_eq_some_iff.1 h).1]
    · rfl
  unfold World.putObj
  rw [this]
theorem erase_toList {α : Type} (l : Array α) (i : Nat) : (l.eraseIdxIfInBounds i).toList = l.toList.eraseIdx i := by
  unfold Array.eraseIdxIfInBounds
  split
  · rw [Array.toList_eraseIdx]
  · rw [List.eraseIdx_of_length_le (by rw [Array.length_toList]; omega)]
theorem mlook_out (hc : CxOK X K w0) (hS : StRel X K w0 E st w) {t : TypeId} {m kk : Operand} {ok : Bool} {p : TypeDesc × TypeId} {z : AV} {bm bk : BO} (hp : keyD X.cx.und t = some p) (hz : zeroV X.cx.und X.cx.size X.cx.zero p.2 = some z) (hm : cO m = some bm) (hk : cO kk = some bk) (ho : o.op = .lookup t m kk ok)
    (h : (xMlook p.1 z ok (ev tm bk) st k (ev tm bm)).holds Θ E.va R) : EffOut X K w0 Θ R E o tm st w k := by
  intro ρ hR
  obtain ⟨kt, hu, huk, hkk⟩ := keyD_inv hc hp
  have h1 := hR.get (x := m) (by rw [ho]; simp [Op.operands]) hm
  have h2 := hR.get (x := kk) (by rw [ho]; simp [Op.operands]) hk
  obtain ⟨zv, hzd, hzr⟩ := zeroV_sound hc hz
  have fin : ∀ (r : Option (Nat × AV × Nat)) (v : Value), (lookR z ok st k r).holds Θ E.va R → (∀ q, r = some q → q.2.1.den E = some v) → (r = none → v = zv) → (∀ b, r.isSome = b → (execOp ρ o).run X.P w = .ok (.value (if ok then .tuple #[v, .bool b] else v)) w) → OpRes X.P (Out X K w0 Θ R E st k) ((execOp ρ o).run X.P w) := by
    intro r v h hq hn hrun
    cases r with
    | none =>
      rw [hrun false rfl]
      have := hn rfl; subst this
      cases ok with
      | false => exact .now h hS (hzd E)
      | true => exact .now h hS (den_tuple_of (denL_cons.2 ⟨_, _, hzd E, denL_cons.2 ⟨_, _, rfl, rfl, rfl⟩, rfl⟩))
    | some q =>
      rw [hrun true rfl]
      have := hq q rfl
      cases ok with
      | false => exact .now h hS this
      | true => exact .now h hS (den_tuple_of (denL_cons.2 ⟨_, _, this, denL_cons.2 ⟨_, _, rfl, rfl, rfl⟩, rfl⟩))
  unfold xMlook at h
  split at h
  · rename_i hev
    obtain ⟨_, h⟩ := vif_inv h
    rw [hev] at h1
    rcases den_map h1 with ⟨_, e⟩ | ⟨_, _, e, _⟩
    · refine fin none zv h (fun q e => by cases e) (fun _ => rfl) fun b hb => ?_
      subst hb
      have hf : (Instr.findKey kt (ρ kk) []).run X.P w = .ok none w := run_findKey huk (by rfl) w
      cases ok <;> simp [execOp, ho, e, Instr.lookup, run_underlying hu, run_checkKey huk hkk, hf, hzr]
    · cases e
  · rename_i r hev
    obtain ⟨_, h⟩ := vif_inv h
    obtain ⟨mm, hmm, h⟩ := vbind_inv h
    obtain ⟨res, hres, h⟩ := vbind_inv h
    rw [hev] at h1
    rcases den_map h1 with ⟨e, _⟩ | ⟨j, id, e, hid, e0⟩
    · cases e
    · cases e
      obtain ⟨ms, hh, hrel⟩ := map_at hS (mapOf_inv hmm) hid
      obtain ⟨r', g1, g2⟩ := findM_sound h2 hrel hres
      have hf := run_findKey (P := X.P) huk g1 w
      have base : ∀ v, (∀ w', ((match r' with | some (_, v) => pure (v, true) | none => (fun z => (z, false)) <$> zeroValue p.2 : Sem (Value × Bool))).run X.P w' = .ok (v, res.isSome) w') → (execOp ρ o).run X.P w = .ok (.value (if ok then .tuple #[v, .bool res.isSome] else v)) w := by
        intro v hv
        have hv := hv w
        cases r' with
        | none =>
          simp only [Sem.run_map] at hv
          cases ok <;> simp [execOp, ho, e0, Instr.lookup, run_underlying hu, run_getMap hh, run_checkKey huk hkk, hf]
          all_goals (rw [hzr] at hv ⊢; simp at hv; simp [hv])
        | some q =>
          simp at hv
          cases ok <;> simp [execOp, ho, e0, Instr.lookup, run_underlying hu, run_getMap hh, run_checkKey huk hkk, hf, hv]
      rcases g2 with ⟨e1, e2⟩ | ⟨j, e, mt, q1, q2, q3, q4, q5, _⟩
      · subst e1 e2
        refine fin none zv h (fun q e => by cases e) (fun _ => rfl) fun b hb => ?_
        subst hb
        exact base zv fun w' => by simp [hzr]
      · subst q1 q5
        refine fin _ mt.val h (fun q e' => by cases e'; exact q4.2.1) (fun e => by cases e) fun b hb => ?_
        subst hb
        exact base mt.val fun w' => by simp
  · exact h.elim

theorem mput_run {P : Program} {t kt el : TypeId} {d : TypeDesc} (hu : P.underlying t = some (.map kt el)) (huk : P.underlying kt = some d) (hkk : keyKind d = true) {id c : Nat} {ms : Array MapEntry} (hh : w.heap[id]? = some (.map ms c)) {key v : Value} {r : Option (Nat × Value)} (hf : Instr.findNow d key ms.toList 0 = some r) :
    (r = none → (Instr.mapUpdate t (.map (some id)) key v).run P w = .ok () (w.putObj id (.map (ms.push { key, val := v, born := c }) (c + 1)))) ∧
    (∀ i x mt, r = some (i, x) → ms.toList[i]? = some mt → Instr.sameBits 10000 mt.key key = true → (Instr.mapUpdate t (.map (some id)) key v).run P w = .ok () (w.putObj id (.map (ms.modify i fun e => { e with key, val := v }) c))) := by
  have hf := run_findKey (P := P) huk hf w
  refine ⟨fun e => ?_, fun i x mt e hi hs => ?_⟩
  · subst e
    simp [Instr.mapUpdate, run_underlying hu, run_getMap hh, run_checkKey huk hkk, hf, run_setMap _ hh]
  · subst e
    have hi' : ms[i]? = some mt := by simpa using hi
    simp [Instr.mapUpdate, run_underlying hu, run_getMap hh, run_checkKey huk hkk, hf, hi', run_keyStays hs, run_setMap _ hh]
theorem mput_out (hc : CxOK X K w0) (hS : StRel X K w0 E st w) {t : TypeId} {m kk v : Operand} {p : TypeDesc × TypeId} {bm bk bv : BO} (hp : keyD X.cx.und t = some p) (hm : cO m = some bm) (hk : cO kk = some bk) (hv : cO v = some bv) (ho : o.op = .mapUpdate t m kk v ∨ o.op = .insert t m kk v)
    (h : (xMput p.1 (ev tm bk) (ev tm bv) st k (ev tm bm)).holds Θ E.va R) : EffOut X K w0 Θ R E o tm st w k := by
  intro ρ hR
  obtain ⟨kt, hu, huk, hkk⟩ := keyD_inv hc hp
  have h1 := hR.get (x := m) (by rcases ho with ho | ho <;> (rw [ho]; simp [Op.operands])) hm
  have h2 := hR.get (x := kk) (by rcases ho with ho | ho <;> (rw [ho]; simp [Op.operands])) hk
  have h3 := hR.get (x := v) (by rcases ho with ho | ho <;> (rw [ho]; simp [Op.operands])) hv
  have go : ∀ w', (Instr.mapUpdate t (ρ m) (ρ kk) (ρ v)).run X.P w = .ok () w' → (execOp ρ o).run X.P w = .ok .skip w' := by
    intro w' hw
    rcases ho with ho | ho <;> simp [execOp, ho, hw]
  unfold xMput at h
  split at h
  · rename_i r hev
    obtain ⟨_, h⟩ := vif_inv h
    obtain ⟨mm, hmm, h⟩ := vbind_inv h
    obtain ⟨res, hres, h⟩ := vbind_inv h
    rw [hev] at h1
    rcases den_map h1 with ⟨e, _⟩ | ⟨j, id, e, hid, e0⟩
    · cases e
    · cases e
      have hobj := mapOf_inv hmm
      obtain ⟨ms, hh, hrel⟩ := map_at hS hobj hid
      obtain ⟨r', g1, g2⟩ := findM_sound h2 hrel hres
      obtain ⟨f1, f2⟩ := mput_run (P := X.P) (w := w) hu huk hkk hh (v := ρ v) g1
      rw [e0] at go
      rcases g2 with ⟨e1, e2⟩ | ⟨j, e, mt, q1, q2, q3, q4, q5, q6⟩
      · subst e1 e2
        simp only [putR] at h
        rw [natK_eq, withO_eq] at h
        rw [go _ (f1 rfl)]
        exact .setO hS h hobj hid hh ⟨rfl, hrel⟩ ⟨rfl, by rw [Array.toList_push]; exact hrel.push ⟨h2, h3, rfl⟩⟩ rfl
      · subst q1 q5
        change VC.holds Θ (withO _ _ _ _) E.va R at h
        rw [withO_eq] at h
        rw [go _ (f2 _ _ mt rfl (by simpa using q3) (q6 _))]
        refine .setO hS h hobj hid hh ⟨rfl, hrel⟩ ⟨rfl, ?_⟩ rfl
        rw [modify_set _ (by simpa using q3), setL_eq]
        exact hrel.set _ ⟨h2, h3, q4.2.2⟩
  · exact h.elim

theorem mdel_out (hc : CxOK X K w0) (hS : StRel X K w0 E st w) {args : Array Operand} {tys : Array TypeId} {bs : List BO} {t : TypeId} {p : TypeDesc × TypeId} {bm bk : BO} (ho : o.op = .call ⟨.builtin .delete, args, tys⟩) (hb : cOs args.toList = some bs) (ht : getL 0 tys.toList = some t) (hm : getL 0 bs = some bm) (hk : getL 1 bs = some bk)
    (hp : keyD X.cx.und t = some p) (h : (xMdel p.1 (ev tm bk) st k (ev tm bm)).holds Θ E.va R) : EffOut X K w0 Θ R E o tm st w k := by
  intro ρ hR
  obtain ⟨kt, hu, huk, hkk⟩ := keyD_inv hc hp
  obtain ⟨ym, h1, ym2⟩ := barg ho hb hR hm
  obtain ⟨yk, h2, yk2⟩ := barg ho hb hR hk
  have ht' := tys_get ht
  have go : ∀ w', (Builtin.delete_ tys o.type (args.map ρ)).run X.P w = .ok (.tuple #[]) w' → (execOp ρ o).run X.P w = .ok (.value (.tuple #[])) w' := by
    intro w' hw
    simp [execOp, ho, resolve, invoke, Go.builtin, hw]
  unfold xMdel at h
  split at h
  · rename_i hev
    obtain ⟨_, h⟩ := vif_inv h
    rw [hev] at h1
    rcases den_map h1 with ⟨_, e⟩ | ⟨_, _, e, _⟩
    · subst e
      rw [go w (by simp [Builtin.delete_, ht', ym2, yk2, run_underlying hu, run_checkKey huk hkk])]
      exact .now h hS rfl
    · cases e
  · rename_i r hev
    obtain ⟨_, h⟩ := vif_inv h
    obtain ⟨mm, hmm, h⟩ := vbind_inv h
    obtain ⟨res, hres, h⟩ := vbind_inv h
    rw [hev] at h1
    rcases den_map h1 with ⟨e, _⟩ | ⟨j, id, e, hid, e0⟩
    · cases e
    · cases e
      subst e0
      have hobj := mapOf_inv hmm
      obtain ⟨ms, hh, hrel⟩ := map_at hS hobj hid
      obtain ⟨r', g1, g2⟩ := findM_sound h2 hrel hres
      have hf := run_findKey (P := X.P) huk g1 w
      rcases g2 with ⟨e1, e2⟩ | ⟨j, e, mt, q1, q2, q3, q4, q5, q6⟩
      · subst e1 e2
        rw [go _ (by simp [Builtin.delete_, ht', ym2, yk2, run_underlying hu, run_getMap hh, run_checkKey huk hkk, hf, run_setMap _ hh]; rfl)]
        have h : (k (.tuple []) st).holds Θ E.va R := h
        rw [putObj_self hh]
        exact .now h hS rfl
      · subst q1 q5
        change VC.holds Θ (withO _ _ _ _) E.va R at h
        rw [withO_eq] at h
        rw [go _ (by simp [Builtin.delete_, ht', ym2, yk2, run_underlying hu, run_getMap hh, run_checkKey huk hkk, hf, run_setMap _ hh]; rfl)]
        refine .setO hS h hobj hid hh ⟨rfl, hrel⟩ ⟨rfl, ?_⟩ rfl
        rw [delAt_eq, erase_toList]
        simpa using hrel.erase j
  · exact h.elim
end
end Go.Sy
/-! Entries, iterators. -/
namespace Go.Sy
section
variable {X : Tabs} {K : Nat → Prop} {w0 : World} {E : Env} {st : St} {w : World} {Θ : Pred} {R : List Back} {tm : Tm} {k : Kt} {o : Oper}

theorem den_nat64 {n : Nat} (h : n < 9223372036854775808) : (AV.int .i64 n).den E = some (goInt (n : Int)) := den_i64 h
theorem mclear_out (hc : CxOK X K w0) (hS : StRel X K w0 E st w) {args : Array Operand} {tys : Array TypeId} {bs : List BO} {t kt el : TypeId} {bm : BO} (ho : o.op = .call ⟨.builtin .clear, args, tys⟩) (hb : cOs args.toList = some bs) (ht : getL 0 tys.toList = some t) (hm : getL 0 bs = some bm)
    (hd : X.cx.und.get t = some (.map kt el)) (h : (xMclear st k (ev tm bm)).holds Θ E.va R) : EffOut X K w0 Θ R E o tm st w k := by
  intro ρ hR
  have hu := hc.und t _ hd
  obtain ⟨ym, h1, ym2⟩ := barg ho hb hR hm
  have ht' := tys_get ht
  have go : ∀ w', (Builtin.clear_ tys o.type (args.map ρ)).run X.P w = .ok (.tuple #[]) w' → (execOp ρ o).run X.P w = .ok (.value (.tuple #[])) w' := by
    intro w' hw
    simp [execOp, ho, resolve, invoke, Go.builtin, hw]
  unfold xMclear at h
  split at h
  · rename_i hev
    rw [hev] at h1
    rcases den_map h1 with ⟨_, e⟩ | ⟨_, _, e, _⟩
    · subst e
      rw [go w (by simp [Builtin.clear_, ht', ym2, run_underlying hu])]
      exact .now h hS rfl
    · cases e
  · rename_i r hev
    obtain ⟨mm, hmm, h⟩ := vbind_inv h
    rw [hev] at h1
    rcases den_map h1 with ⟨e, _⟩ | ⟨j, id, e, hid, e0⟩
    · cases e
    · cases e
      subst e0
      have hobj := mapOf_inv hmm
      obtain ⟨ms, hh, hrel⟩ := map_at hS hobj hid
      rw [withO_eq] at h
      rw [go _ (by simp [Builtin.clear_, ht', ym2, run_underlying hu, run_getMap hh, run_setMap _ hh]; rfl)]
      exact .setO hS h hobj hid hh ⟨rfl, hrel⟩ ⟨rfl, trivial⟩ rfl
  · exact h.elim
theorem mlen_out (hc : CxOK X K w0) (hS : StRel X K w0 E st w) {args : Array Operand} {tys : Array TypeId} {bs : List BO} {t kt el : TypeId} {bm : BO} (ho : o.op = .call ⟨.builtin .len, args, tys⟩) (hb : cOs args.toList = some bs) (ht : getL 0 tys.toList = some t) (hm : getL 0 bs = some bm)
    (hd : X.cx.und.get t = some (.map kt el)) (h : (xMlen st k (ev tm bm)).holds Θ E.va R) : EffOut X K w0 Θ R E o tm st w k := by
  intro ρ hR
  have hu := hc.und t _ hd
  obtain ⟨ym, h1, ym2⟩ := barg ho hb hR hm
  have ht' := tys_get ht
  have go : ∀ n : Int, (Builtin.len_ tys o.type (args.map ρ)).run X.P w = .ok (goInt n) w → (execOp ρ o).run X.P w = .ok (.value (goInt n)) w := by
    intro n hw
    simp [execOp, ho, resolve, invoke, Go.builtin, hw]
  unfold xMlen at h
  split at h
  · rename_i hev
    rw [hev] at h1
    rcases den_map h1 with ⟨_, e⟩ | ⟨_, _, e, _⟩
    · subst e
      rw [go 0 (by simp [Builtin.len_, ht', ym2, run_underlying hu])]
      exact .now h hS (den_i64 (by decide))
    · cases e
  · rename_i r hev
    obtain ⟨mm, hmm, h⟩ := vbind_inv h
    rw [natK_eq] at h
    obtain ⟨h3, h⟩ := lenK_inv h
    rw [hev] at h1
    rcases den_map h1 with ⟨e, _⟩ | ⟨j, id, e, hid, e0⟩
    · cases e
    · cases e
      subst e0
      obtain ⟨ms, hh, hrel⟩ := map_at hS (mapOf_inv hmm) hid
      have hl := hrel.length
      rw [Array.length_toList] at hl
      rw [lenL_eq, hl] at h3 h
      rw [go ms.size (by simp [Builtin.len_, ht', ym2, run_underlying hu, run_getMap hh])]
      exact .now h hS (den_i64 h3)
  · exact h.elim

theorem mentry_run {P : Program} {t kt el : TypeId} {d : TypeDesc} (hu : P.underlying t = some (.map kt el)) (huk : P.underlying kt = some d) (hkk : keyKind d = true) {zv : Value} (hz : ∀ w, (zeroValue el).run P w = .ok zv w) {id c : Nat} {ms : Array MapEntry} (hh : w.heap[id]? = some (.map ms c)) {key : Value} {r : Option (Nat × Value)} (hf : Instr.findNow d key ms.toList 0 = some r) :
    (r = none → (Instr.mapEntry t (.map (some id)) key).run P w = .ok (.tuple #[zv, goInt c]) (w.putObj id (.map (ms.push { key, val := zv, born := c }) (c + 1)))) ∧
    (∀ i x mt, r = some (i, x) → ms.toList[i]? = some mt → Instr.sameBits 10000 mt.key key = true → (Instr.mapEntry t (.map (some id)) key).run P w = .ok (.tuple #[x, goInt mt.born]) (w.putObj id (.map (ms.modify i fun e => { e with key }) c))) := by
  have hf := run_findKey (P := P) huk hf w
  refine ⟨fun e => ?_, fun i x mt e hi hs => ?_⟩
  · subst e
    simp [Instr.mapEntry, run_underlying hu, run_getMap hh, run_checkKey huk hkk, hf, hz, run_setMap _ hh]
  · subst e
    have hi' : ms[i]? = some mt := by simpa using hi
    simp [Instr.mapEntry, run_underlying hu, run_getMap hh, run_checkKey huk hkk, hf, hi', run_keyStays hs, run_setMap _ hh]
theorem mentry_out (hc : CxOK X K w0) (hS : StRel X K w0 E st w) {t : TypeId} {m kk : Operand} {p : TypeDesc × TypeId} {z : AV} {bm bk : BO} (hp : keyD X.cx.und t = some p) (hz : zeroV X.cx.und X.cx.size X.cx.zero p.2 = some z) (hm : cO m = some bm) (hk : cO kk = some bk) (ho : o.op = .mapEntry t m kk)
    (h : (xMentry p.1 z (ev tm bk) st k (ev tm bm)).holds Θ E.va R) : EffOut X K w0 Θ R E o tm st w k := by
  intro ρ hR
  obtain ⟨kt, hu, huk, hkk⟩ := keyD_inv hc hp
  have h1 := hR.get (x := m) (by rw [ho]; simp [Op.operands]) hm
  have h2 := hR.get (x := kk) (by rw [ho]; simp [Op.operands]) hk
  obtain ⟨zv, hzd, hzr⟩ := zeroV_sound hc hz
  have go : ∀ v w', (Instr.mapEntry t (ρ m) (ρ kk)).run X.P w = .ok v w' → (execOp ρ o).run X.P w = .ok (.value v) w' := by
    intro v w' hw
    simp [execOp, ho, hw]
  unfold xMentry at h
  split at h
  · rename_i r hev
    obtain ⟨_, h⟩ := vif_inv h
    obtain ⟨mm, hmm, h⟩ := vbind_inv h
    obtain ⟨res, hres, h⟩ := vbind_inv h
    rw [hev] at h1
    rcases den_map h1 with ⟨e, _⟩ | ⟨j, id, e, hid, e0⟩
    · cases e
    · cases e
      have hobj := mapOf_inv hmm
      obtain ⟨ms, hh, hrel⟩ := map_at hS hobj hid
      obtain ⟨r', g1, g2⟩ := findM_sound h2 hrel hres
      obtain ⟨f1, f2⟩ := mentry_run (P := X.P) (w := w) hu huk hkk hzr hh g1
      rw [e0] at go
      rcases g2 with ⟨e1, e2⟩ | ⟨j, e, mt, q1, q2, q3, q4, q5, q6⟩
      · subst e1 e2
        simp only [entR] at h
        obtain ⟨h3, h⟩ := vif_inv h
        rw [blt_iff, decide_eq_true_eq] at h3
        rw [natK_eq, withO_eq] at h
        rw [go _ _ (f1 rfl)]
        exact .setO hS h hobj hid hh ⟨rfl, hrel⟩ ⟨rfl, by rw [Array.toList_push]; exact hrel.push ⟨h2, hzd E, rfl⟩⟩ (den_tuple_of (denL_cons.2 ⟨_, _, hzd E, denL_cons.2 ⟨_, _, den_i64 h3, rfl, rfl⟩, rfl⟩))
      · subst q1 q5
        simp only [entR] at h
        obtain ⟨h3, h⟩ := vif_inv h
        rw [blt_iff, decide_eq_true_eq] at h3
        rw [withO_eq] at h
        rw [go _ _ (f2 _ _ mt rfl (by simpa using q3) (q6 _))]
        refine .setO hS h hobj hid hh ⟨rfl, hrel⟩ ⟨rfl, ?_⟩ (den_tuple_of (denL_cons.2 ⟨_, _, q4.2.1, denL_cons.2 ⟨_, _, by rw [← q4.2.2]; exact den_i64 h3, rfl, rfl⟩, rfl⟩))
        rw [modify_set _ (by simpa using q3), setL_eq]
        exact hrel.set _ ⟨h2, q4.2.1, q4.2.2⟩
  · exact h.elim

theorem bornAt_sound {n : Nat} : ∀ {es : List (AV × AV × Nat)} {ms : List MapEntry} {i : Nat} {p : Nat × AV × AV × Nat}, EntsRel E es ms → bornAt n es i = some p →
    ∃ j m, p.1 = i + j ∧ es[j]? = some p.2 ∧ ms[j]? = some m ∧ EntRel E p.2 m ∧ m.born = n ∧ ∀ k m', k < j → ms[k]? = some m' → m'.born ≠ n
  | [], [], i, p, _, h => by cases h
  | e :: es, m :: ms, i, p, ⟨h1, h2⟩, h => by
    change bif_ (Nat.beq e.2.2 n) (some (i, e)) (bornAt n es (Nat.succ i)) = some p at h
    rw [beq_iff] at h
    by_cases c : e.2.2 = n
    · rw [decide_eq_true c] at h
      cases h
      exact ⟨0, m, rfl, rfl, rfl, h1, by rw [← h1.2.2]; exact c, fun k m' hk => absurd hk (Nat.not_lt_zero _)⟩
    · rw [decide_eq_false c] at h
      obtain ⟨j, m', g1, g2, g3, g4, g5, g6⟩ := bornAt_sound h2 h
      refine ⟨j + 1, m', by rw [g1]; omega, by simpa using g2, by simpa using g3, g4, g5, fun k m'' hk hm => ?_⟩
      cases k with
      | zero => simp at hm; subst hm; rw [← h1.2.2]; exact c
      | succ k => exact g6 k m'' (by omega) (by simpa using hm)
  | [], _ :: _, _, _, h, _ => h.elim
  | _ :: _, [], _, _, h, _ => h.elim
theorem findIdx_born {ms : Array MapEntry} {n j : Nat} {m : MapEntry} (h : ms.toList[j]? = some m) (hb : m.born = n) (hno : ∀ k m', k < j → ms.toList[k]? = some m' → m'.born ≠ n) : ms.findIdx? (fun e => (e.born : Int) == (n : Int)) = some j := by
  rw [Array.findIdx?_eq_some_iff_getElem]
  have hj := (List.getElem?_eq_some_iff.1 h)
  obtain ⟨hj1, hj2⟩ := hj
  rw [Array.length_toList] at hj1
  refine ⟨hj1, ?_, fun k hk => ?_⟩
  · have : ms[j] = m := by simpa using hj2
    simp [this, hb]
  · have := hno k (ms[k]) hk (by simp [Nat.lt_trans hk hj1])
    have : ¬ ((ms[k].born : Int) = (n : Int)) := by omega
    simpa using this
theorem mstore_out (hS : StRel X K w0 E st w) (hO : Oks E tm) {t : TypeId} {m s v : Operand} {bm bs bv : BO} (hm : cO m = some bm) (hs : cO s = some bs) (hv : cO v = some bv) (ho : o.op = .entryStore t m s v)
    (h : (xMstore (ev tm bs) (ev tm bv) st k (ev tm bm)).holds Θ E.va R) : EffOut X K w0 Θ R E o tm st w k := by
  intro ρ hR
  have h1 := hR.get (x := m) (by rw [ho]; simp [Op.operands]) hm
  have h2 := hR.get (x := s) (by rw [ho]; simp [Op.operands]) hs
  have h3 := hR.get (x := v) (by rw [ho]; simp [Op.operands]) hv
  unfold xMstore at h
  split at h
  · rename_i r hev
    obtain ⟨n, hn, h⟩ := vbind_inv h
    obtain ⟨mm, hmm, h⟩ := vbind_inv h
    obtain ⟨p, hp, h⟩ := vbind_inv h
    rw [withO_eq] at h
    obtain ⟨kd, e1, e2, _⟩ := natOf_inv hn (hO.ev hs)
    rw [e1] at h2
    have h2 := (den_int h2).2
    rw [e2] at h2
    rw [hev] at h1
    rcases den_map h1 with ⟨e, _⟩ | ⟨j, id, e, hid, e0⟩
    · cases e
    · cases e
      have hobj := mapOf_inv hmm
      obtain ⟨ms, hh, hrel⟩ := map_at hS hobj hid
      obtain ⟨j, mt, g1, g2, g3, g4, g5, g6⟩ := bornAt_sound hrel hp
      have hidx := findIdx_born g3 g5 g6
      have hrun : (execOp ρ o).run X.P w = .ok .skip (w.putObj id (.map (ms.modify j fun e => { e with val := ρ v }) mm.2)) := by
        simp [execOp, ho, e0, h2, Instr.entryStore, run_getMap hh, asInt, asIntOf, hidx, run_setMap _ hh]
      rw [hrun]
      refine .setO hS h hobj hid hh ⟨rfl, hrel⟩ ⟨rfl, ?_⟩ rfl
      rw [modify_set _ g3, setL_eq, g1, Nat.zero_add]
      exact hrel.set _ ⟨g4.1, h3, g4.2.2⟩
  · exact h.elim
end
end Go.Sy
/-! Iterators. -/
namespace Go.Sy
section
variable {X : Tabs} {K : Nat → Prop} {w0 : World} {E : Env} {st : St} {w : World} {Θ : Pred} {R : List Back} {tm : Tm} {k : Kt} {o : Oper}

theorem Out.newO {v : AV} {y : Value} {ob' : Obj} {o' : Ob} (hS : StRel X K w0 E st w) (h : (k v (st.obj o')).holds Θ E.va R) (ho : ObRel X ((E.push none).set st.n (w.heap.size, 0)) o' ob') (hv : v.den ((E.push none).set st.n (w.heap.size, 0)) = some y) :
    Out X K w0 Θ R E st k y (w.alloc ob') := by
  obtain ⟨g1, g2, g3, g4⟩ := hS.newObjAt o' ob' ho
  exact ⟨v, _, (E.push none).set st.n (w.heap.size, 0), R, List.prefix_rfl, h, g3, g1, g2, hv⟩
theorem newptr_den (hS : StRel X K w0 E st w) : (AV.ptr (some ⟨.r st.n, 0⟩)).den ((E.push none).set st.n (w.heap.size, 0)) = some (.pointer (some ⟨w.heap.size, 0, none⟩)) :=
  ptr_den (by rw [← hS.n_eq]; exact push_new E none)
theorem rngM_out (hc : CxOK X K w0) (hS : StRel X K w0 E st w) {t kt el : TypeId} {x : Operand} {b : BO} (hb : cO x = some b) (hd : X.cx.und.get t = some (.map kt el)) (ho : o.op = .range t x)
    (h : (xRngM st k (ev tm b)).holds Θ E.va R) : EffOut X K w0 Θ R E o tm st w k := by
  intro ρ hR
  have hu := hc.und t _ hd
  have h1 := hR.get (x := x) (by rw [ho]; simp [Op.operands]) hb
  unfold xRngM at h
  split at h
  · rename_i hev
    rw [hev] at h1
    rw [newO_eq] at h
    rcases den_map h1 with ⟨_, e⟩ | ⟨_, _, e, _⟩
    · have hrun : (execOp ρ o).run X.P w = .ok (.value (.pointer (some ⟨w.heap.size, 0, none⟩))) (w.alloc (.mapIter none 0 #[] 0)) := by
        simp [execOp, ho, e, Instr.range, run_underlying hu]
      rw [hrun]
      exact .newO hS h ⟨trivial, rfl, rfl, rfl⟩ (newptr_den hS)
    · cases e
  · rename_i r hev
    obtain ⟨mm, hmm, h⟩ := vbind_inv h
    rw [hev] at h1
    rw [newO_eq] at h
    rcases den_map h1 with ⟨e, _⟩ | ⟨j, id, e, hid, e0⟩
    · cases e
    · cases e
      obtain ⟨ms, hh, hrel⟩ := map_at hS (mapOf_inv hmm) hid
      have hrun : (execOp ρ o).run X.P w = .ok (.value (.pointer (some ⟨w.heap.size, 0, none⟩))) (w.alloc (.mapIter (some id) mm.2 #[] mm.2)) := by
        simp [execOp, ho, e0, Instr.range, run_underlying hu, run_getMap hh]
      rw [hrun]
      have hle : E.Le ((E.push none).set st.n (w.heap.size, 0)) := (E.le_push none).trans (Env.le_set (by rw [← hS.n_eq]; exact push_new E none))
      exact .newO hS h ⟨hle.m _ _ hid, rfl, rfl, rfl⟩ (newptr_den hS)
  · exact h.elim
theorem rngT_out (hc : CxOK X K w0) (hS : StRel X K w0 E st w) {t : TypeId} {x : Operand} {b : BO} (hb : cO x = some b) (hd : X.cx.und.get t = some .string) (ho : o.op = .range t x)
    (h : (xRngT st k (ev tm b)).holds Θ E.va R) : EffOut X K w0 Θ R E o tm st w k := by
  intro ρ hR
  have hu := hc.und t _ hd
  have h1 := hR.get (x := x) (by rw [ho]; simp [Op.operands]) hb
  unfold xRngT at h
  split at h
  · rename_i n s hev
    rw [hev] at h1
    rw [newO_eq] at h
    obtain ⟨g1, g2, e⟩ := den_str h1
    have hrun : (execOp ρ o).run X.P w = .ok (.value (.pointer (some ⟨w.heap.size, 0, none⟩))) (w.alloc (.stringIter (bytesOf s) 0)) := by
      simp [execOp, ho, e, Instr.range, run_underlying hu]
    rw [hrun]
    exact .newO hS h ⟨g1, g2, rfl, rfl⟩ (newptr_den hS)
  · exact h.elim
theorem itOf_inv {v : AV} {r : Nat} (h : itOf v = some r) : v = .ptr (some ⟨.r r, 0⟩) := by
  unfold itOf at h
  split at h
  · cases h; rfl
  · cases h
theorem it_den {r : Nat} {y : Value} (h : (AV.ptr (some ⟨.r r, 0⟩)).den E = some y) : ∃ p, E.m[r]? = some (some p) ∧ y = .pointer (some ⟨p.1, 0 + p.2, none⟩) := by
  obtain ⟨ad, h1, h2⟩ := den_ptr h
  obtain ⟨p, h3, rfl⟩ := aden_r h1
  exact ⟨p, h3, h2⟩
theorem obj_any (hS : StRel X K w0 E st w) {r : Nat} {o : Ob} (h : st.x.objs.get r = some o) {p : Nat × Nat} (hm : E.m[r]? = some (some p)) : p.2 = 0 ∧ ∃ ob, w.heap[p.1]? = some ob ∧ ObRel X E o ob := by
  rcases (hS.objs r o h).2 with h1 | ⟨id', ob, h1, h2, h3⟩
  · rw [hm] at h1; cases h1
  · rw [hm] at h1; cases h1; exact ⟨rfl, ob, h2, h3⟩

theorem memN_iff (n : Nat) : ∀ (l : List Nat), memN n l = true ↔ n ∈ l
  | [] => by simp [memN]
  | x :: r => by
    have ih := memN_iff n r
    change (Bool.rec (memN n r) true (Nat.beq x n) : Bool) = true ↔ _
    cases e : Nat.beq x n with
    | true =>
      rw [beq_iff, decide_eq_true_eq] at e
      simp [e]
    | false =>
      rw [beq_iff, decide_eq_false_iff_not] at e
      rw [List.mem_cons]
      exact ⟨fun h => .inr (ih.1 h), fun h => ih.2 (h.resolve_left fun h' => e h'.symm)⟩
theorem leftM_rel {seen : List Nat} : ∀ {es : List (AV × AV × Nat)} {ms : List MapEntry}, EntsRel E es ms → EntsRel E (leftM es seen) (ms.filter fun e => !seen.contains e.born)
  | [], [], _ => trivial
  | e :: es, m :: ms, ⟨h1, h2⟩ => by
    have ih := leftM_rel (seen := seen) h2
    change EntsRel E (bif_ (memN e.2.2 seen) (leftM es seen) (e :: leftM es seen)) _
    have hb : memN e.2.2 seen = seen.contains m.born := by
      rw [h1.2.2]
      cases hc : seen.contains m.born with
      | true => rw [memN_iff]; simpa using hc
      | false =>
        cases hm : memN m.born seen with
        | false => rfl
        | true => rw [memN_iff] at hm; simp [hm] at hc
    rw [hb]
    cases hc : seen.contains m.born with
    | true => rw [List.filter_cons]; simp only [hc, Bool.not_true, Bool.false_eq_true, if_false]; exact ih
    | false => rw [List.filter_cons]; simp only [hc, Bool.not_false, if_true]; exact ⟨h1, ih⟩
  | [], _ :: _, h => h.elim
  | _ :: _, [], h => h.elim
theorem allBorn_rel {n : Nat} {lt : Bool} : ∀ {es : List (AV × AV × Nat)} {ms : List MapEntry}, EntsRel E es ms → allBorn n lt es = ms.all fun e => lt == decide (e.born < n)
  | [], [], _ => rfl
  | e :: es, m :: ms, ⟨h1, h2⟩ => by
    have ih := allBorn_rel (n := n) (lt := lt) h2
    change bif_ (bbeq lt (Nat.blt e.2.2 n)) (allBorn n lt es) false = _
    rw [bbeq_eq, blt_iff, h1.2.2, ih, List.all_cons]
    cases lt <;> cases hd : decide (m.born < n) <;> simp [bif_]
  | [], _ :: _, h => h.elim
  | _ :: _, [], h => h.elim
theorem each_inv {r m since stepped : Nat} {seen : List Nat} : ∀ {l : List (AV × AV × Nat)}, (eachM r m since stepped seen st k l).holds Θ E.va R → ∀ e ∈ l, (k (.tuple [.bool true, e.1, e.2.1]) (st.setO r (.mapIt (some m) since (seen ++ [e.2.2]) stepped))).holds Θ E.va R
  | [], _, e, he => by cases he
  | x :: l, h, e, he => by
    obtain ⟨h1, h2⟩ : (withO st r (.mapIt (some m) since (seen ++ [x.2.2]) stepped) (k (.tuple [.bool true, x.1, x.2.1]))).holds Θ E.va R ∧ (eachM r m since stepped seen st k l).holds Θ E.va R := h
    rw [withO_eq] at h1
    rcases List.mem_cons.1 he with rfl | he
    · exact h1
    · exact each_inv h2 e he
theorem run_pick {P : Program} (w : World) (n : Nat) (h : 0 < n) : ∃ i w1, (choose (.mapNext n)).run P w = .ok i w1 ∧ (w1 = w ∨ w1 = w.drew) ∧ i < n := by
  rw [run_choose_drew]
  split
  · exact ⟨0, w, rfl, .inl rfl, h⟩
  · exact ⟨_, w.drew, rfl, .inr rfl, Nat.mod_lt _ h⟩
theorem nextM_run {P : Program} {t : TypeId} {id m since last clock : Nat} {seen : Array Nat} {ms : Array MapEntry} (hi : w.heap[id]? = some (.mapIter (some m) since seen last)) (hm : w.heap[m]? = some (.map ms clock))
    (h1 : (!seen.isEmpty && !ms.isEmpty && ms.all (·.born ≥ last)) = false) (h2 : ∀ e ∈ ms.toList.filter (fun e => !seen.toList.contains e.born), e.born < since) :
    (ms.toList.filter (fun e => !seen.toList.contains e.born) = [] → ∃ w1, (w1 = w ∨ w1 = w.drew) ∧ (Instr.next (.pointer (some ⟨id, 0, none⟩)) false t).run P w = .ok (.tuple #[.bool false]) w1) ∧
    (ms.toList.filter (fun e => !seen.toList.contains e.born) ≠ [] → ∃ e ∈ ms.toList.filter (fun e => !seen.toList.contains e.born), ∃ w1, (w1 = w ∨ w1 = w.drew) ∧
      (Instr.next (.pointer (some ⟨id, 0, none⟩)) false t).run P w = .ok (.tuple #[.bool true, e.key, e.val]) (w1.putObj id (.mapIter (some m) since (seen.push e.born) clock))) := by
  have hg : (getObj id).run P w = .ok (.mapIter (some m) since seen last) w := run_getO hi (by intros; exact Obj.noConfusion)
  have hleft : (ms.filter fun e => !seen.contains e.born).toList = ms.toList.filter (fun e => !seen.toList.contains e.born) := by simp
  have hold : (ms.filter fun e => !seen.contains e.born).filter (·.born < since) = ms.filter fun e => !seen.contains e.born := by
    rw [Array.filter_eq_self]
    intro e he
    have := h2 e (by rw [← hleft]; simpa using he)
    simpa using this
  have hnew : (ms.filter fun e => !seen.contains e.born).filter (·.born ≥ since) = #[] := by
    rw [Array.filter_eq_empty_iff]
    intro e he
    have := h2 e (by rw [← hleft]; simpa using he)
    simpa using this
  generalize hL : (ms.filter fun e => !seen.contains e.born) = L at hold hnew hleft
  have hset : ∀ (ob : Obj) (w1 : World), (w1 = w ∨ w1 = w.drew) → (setObj id ob).run P w1 = .ok () (w1.putObj id ob) := by
    rintro ob w1 (rfl | rfl)
    · simp [setObj, Sem.run, hi, World.putObj]
    · have : w.drew.heap[id]? = some (.mapIter (some m) since seen last) := hi
      simp [setObj, Sem.run, this, World.putObj]
  refine ⟨fun he => ?_, fun hne => ?_⟩
  · have hLe : L = #[] := by apply Array.ext'; rw [hleft, he]
    subst hLe
    obtain ⟨i, w1, g1, g2, g3⟩ := run_pick (P := P) w 1 (by decide)
    have : i = 0 := by omega
    subst this
    refine ⟨w1, g2, ?_⟩
    simp only [Instr.next, Sem.run_bind, hg, Result.andThen_ok, run_getMap hm, h1, Bool.false_eq_true, if_false, hL, hold, hnew]
    simp [g1, -run_choose_drew, -run_choose]
  · have hLs : 0 < L.size := by
      rcases Nat.eq_zero_or_pos L.size with e | e
      · exact absurd (by rw [← hleft]; exact List.eq_nil_of_length_eq_zero (by simpa using e)) hne
      · exact e
    obtain ⟨i, w1, g1, g2, g3⟩ := run_pick (P := P) w L.size hLs
    have hLi : L[i]? = some L[i] := Array.getElem?_eq_getElem g3
    have hemp : L.isEmpty = false := by
      rw [Array.isEmpty_eq_false_iff]; intro e; rw [e] at hLs; simp at hLs
    refine ⟨L[i], by rw [← hleft]; simp, w1, g2, ?_⟩
    simp only [Instr.next, Sem.run_bind, hg, Result.andThen_ok, run_getMap hm, h1, Bool.false_eq_true, if_false, hL, hold, hnew, hemp]
    simp [g1, hLi, hset _ w1 g2, -run_choose_drew, -run_choose]
end
end Go.Sy
/-! Steps of iterators. -/
namespace Go.Sy
section
variable {X : Tabs} {K : Nat → Prop} {w0 : World} {E : Env} {st : St} {w : World} {Θ : Pred} {R : List Back} {tm : Tm} {k : Kt} {o : Oper}

theorem false1_den : (AV.tuple [.bool false]).den E = some (.tuple #[.bool false]) := rfl
theorem nextM_out (hS : StRel X K w0 E st w) {x : Operand} {b : BO} (hb : cO x = some b) (ho : o.op = .next x false) (h : (xNextM st k (ev tm b)).holds Θ E.va R) : EffOut X K w0 Θ R E o tm st w k := by
  intro ρ hR
  have h1 := hR.get (x := x) (by rw [ho]; simp [Op.operands]) hb
  obtain ⟨r, hr, h⟩ := vbind_inv h
  rw [itOf_inv hr] at h1
  obtain ⟨p, hp, e0⟩ := it_den h1
  have go : ∀ v w', (Instr.next (ρ x) false o.type).run X.P w = .ok v w' → (execOp ρ o).run X.P w = .ok (.value v) w' := by
    intro v w' hw
    simp [execOp, ho, hw]
  unfold nextMO at h
  split at h
  · rename_i since seen last hob
    obtain ⟨hp2, ob, hh, hrel⟩ := obj_any hS hob hp
    cases ob <;> simp only [ObRel] at hrel
    rename_i m' c' l' d'
    obtain ⟨hm, _⟩ := hrel
    cases m' with
    | some _ => exact hm.elim
    | none =>
      rw [e0, hp2] at go
      rw [go (.tuple #[.bool false]) w (by simp [Instr.next, run_getO hh (by intros; exact Obj.noConfusion)])]
      exact .now h hS rfl
  · rename_i m since seen last hob
    obtain ⟨mm, hmm, h⟩ := vbind_inv h
    unfold stepM at h
    obtain ⟨hcond, h⟩ := vif_inv h
    obtain ⟨hp2, ob, hh, hrel⟩ := obj_any hS hob hp
    cases ob <;> simp only [ObRel] at hrel
    rename_i m' c' l' d'
    obtain ⟨hm, rfl, hseen, rfl⟩ := hrel
    cases m' with
    | none => exact hm.elim
    | some idm =>
      obtain ⟨id, sh⟩ := p
      have hsh : sh = 0 := hp2
      subst hsh
      have hm : E.m[m]? = some (some (idm, 0)) := hm
      obtain ⟨ms, hhm, hent⟩ := map_at hS (mapOf_inv hmm) hm
      subst hseen
      have hl := leftM_rel (seen := l'.toList) hent
      rw [Bool.and_eq_true] at hcond
      obtain ⟨c1, c2⟩ := hcond
      rw [allBorn_rel hent] at c1
      rw [allBorn_rel hl] at c2
      have hnilS : isNil l'.toList = l'.isEmpty := by rw [isNil_eq]; cases l'; simp
      have hnilE : isNil mm.1 = ms.isEmpty := by
        rw [isNil_eq]
        have := hent.length
        cases e : mm.1 <;> rw [e] at this <;> simp at this <;> simp [← Array.size_eq_zero_iff] <;> omega
      have hc1 : (!l'.isEmpty && !ms.isEmpty && ms.all (·.born ≥ last)) = false := by
        rw [hnilS, hnilE] at c1
        have e : (ms.toList.all fun e => false == decide (e.born < last)) = ms.all (·.born ≥ last) := by
          rw [← Array.all_toList]
          congr 1; funext e
          by_cases c : e.born < last
          · simp [c]
          · simp [c]; omega
        rw [e] at c1
        revert c1
        generalize l'.isEmpty = p1
        generalize ms.isEmpty = p2
        generalize ms.all (fun x => decide (x.born ≥ last)) = p3
        cases p1 <;> cases p2 <;> cases p3 <;> simp
      have hc2 : ∀ e ∈ ms.toList.filter (fun e => !l'.toList.contains e.born), e.born < since := by
        intro e he
        have := List.all_eq_true.1 c2 e he
        simpa using this
      obtain ⟨g1, g2⟩ := nextM_run (P := X.P) (t := o.type) hh hhm hc1 hc2
      rw [e0] at go
      have hd : ∀ w1, (w1 = w ∨ w1 = w.drew) → StRel X K w0 E st w1 := by
        rintro w1 (rfl | rfl)
        · exact hS
        · exact hS.drew
      rcases bif_holds h with ⟨he, h⟩ | ⟨he, h⟩
      · rw [isNil_eq, List.isEmpty_iff] at he
        have : ms.toList.filter (fun e => !l'.toList.contains e.born) = [] := by
          have := hl.length; rw [he] at this
          exact List.eq_nil_of_length_eq_zero this.symm
        obtain ⟨w1, q1, q2⟩ := g1 this
        rw [go _ _ q2]
        exact .now h (hd w1 q1) rfl
      · have hne : ms.toList.filter (fun e => !l'.toList.contains e.born) ≠ [] := by
          intro e
          have := hl.length; rw [e] at this
          rw [isNil_eq, List.eq_nil_of_length_eq_zero this] at he
          cases he
        obtain ⟨e, he', w1, q1, q2⟩ := g2 hne
        rw [go _ _ q2]
        obtain ⟨i, hi⟩ := List.getElem?_of_mem he'
        have hlen := hl.length
        have hilt := (List.getElem?_eq_some_iff.1 hi).1
        have hsome : ∃ ea, (leftM mm.1 l'.toList)[i]? = some ea := ⟨_, List.getElem?_eq_getElem (by omega)⟩
        obtain ⟨ea, hea⟩ := hsome
        obtain ⟨e', f1, f2⟩ := hl.get hea
        rw [hi] at f1; cases f1
        have hk := each_inv h ea (List.mem_of_getElem? hea)
        have hS1 := hd w1 q1
        have hh1 : w1.heap[id]? = some (.mapIter (some idm) since l' last) := by rcases q1 with rfl | rfl <;> exact hh
        refine .setO hS1 hk hob hp hh1 ⟨hm, rfl, rfl, rfl⟩ ⟨hm, rfl, ?_, rfl⟩ ?_
        · rw [Array.toList_push, f2.2.2]
        · exact den_tuple_of (denL_cons.2 ⟨_, _, rfl, denL_cons.2 ⟨_, _, f2.1, denL_cons.2 ⟨_, _, f2.2.1, rfl, rfl⟩, rfl⟩, rfl⟩)
  · exact h.elim

theorem decode_ascii {s : List Nat} {pos c : Nat} (h : s[pos]? = some c) (hc : c < 128) : Utf8.decode (bytesOf s) pos = (c, 1) := by
  have hlt := (List.getElem?_eq_some_iff.1 h).1
  have hget : ((bytesOf s).get! (pos + 0)).toNat = c := by
    have : (bytesOf s).get! (pos + 0) = UInt8.ofNat c := by
      unfold bytesOf
      show (s.map UInt8.ofNat).toArray[pos + 0]! = _
      rw [Nat.add_zero]
      simp [hlt]
      rw [(List.getElem?_eq_some_iff.1 h).2]
    rw [this, toU8 (by omega)]
  unfold Utf8.decode
  simp only [hget]
  rw [if_pos hc]
theorem nextT_out (hS : StRel X K w0 E st w) {x : Operand} {b : BO} (hb : cO x = some b) (ho : o.op = .next x true) (h : (xNextT st k (ev tm b)).holds Θ E.va R) : EffOut X K w0 Θ R E o tm st w k := by
  intro ρ hR
  have h1 := hR.get (x := x) (by rw [ho]; simp [Op.operands]) hb
  obtain ⟨r, hr, h⟩ := vbind_inv h
  rw [itOf_inv hr] at h1
  obtain ⟨p, hp, e0⟩ := it_den h1
  have go : ∀ v w', (Instr.next (ρ x) true o.type).run X.P w = .ok v w' → (execOp ρ o).run X.P w = .ok (.value v) w' := by
    intro v w' hw
    simp [execOp, ho, hw]
  unfold nextTO at h
  split at h
  · rename_i n s pos hob
    obtain ⟨hp2, ob, hh, hrel⟩ := obj_any hS hob hp
    obtain ⟨id, sh⟩ := p
    have hsh : sh = 0 := hp2
    subst hsh
    cases ob <;> simp only [ObRel] at hrel
    rename_i sb sp
    obtain ⟨hn, hs, rfl, rfl⟩ := hrel
    rw [e0] at go
    have hg := run_getO (P := X.P) hh (by intros; exact Obj.noConfusion)
    rw [blt_iff] at h
    by_cases c : sp < n
    · rw [decide_eq_true c] at h
      obtain ⟨cc, hcc, h⟩ := vbind_inv h
      obtain ⟨hcond, h⟩ := vif_inv h
      rw [natK_eq, withO_eq] at h
      rw [getL_eq] at hcc
      simp only [Bool.and_eq_true, blt_iff, decide_eq_true_eq] at hcond
      have hdec := decode_ascii hcc hcond.1
      have hlt : sp < (bytesOf s).size := by rw [bytesOf_size]; omega
      have hrun := go (.tuple #[.bool true, goInt sp, .int .i32 cc]) (w.putObj id (.stringIter (bytesOf s) (sp + 1))) (by
        simp [Instr.next, hg, hlt, hdec, setObj, Sem.run, hh, World.putObj])
      rw [hrun]
      exact .setO hS h hob hp hh ⟨hn, hs, rfl, rfl⟩ ⟨hn, hs, rfl, rfl⟩ (den_tuple_of (denL_cons.2 ⟨_, _, rfl, denL_cons.2 ⟨_, _, den_i64 hcond.2, denL_cons.2 ⟨_, _, by rw [den_int_of (by simp only [modOf]; omega), sgn_nat .i32 (by simp only [halfOf]; omega)], rfl, rfl⟩, rfl⟩, rfl⟩))
    · rw [decide_eq_false c] at h
      have hlt : ¬ sp < (bytesOf s).size := by rw [bytesOf_size]; omega
      rw [go (.tuple #[.bool false]) w (by simp [Instr.next, hg, hlt])]
      exact .now h hS rfl
  · exact h.elim

theorem lastL_eq : ∀ (l : List Nat), lastL l = l.getLast?
  | [] => rfl
  | [x] => rfl
  | x :: y :: r => by
    have ih := lastL_eq (y :: r)
    change (Option.rec (some x) (fun y => some y) (lastL (y :: r)) : Option Nat) = _
    rw [ih, List.getLast?_cons_cons]
    cases e : (y :: r).getLast? with
    | none => simp at e
    | some z => rfl
theorem find_born {ms : Array MapEntry} {n j : Nat} {m : MapEntry} (h : ms.toList[j]? = some m) (hb : m.born = n) (hno : ∀ k m', k < j → ms.toList[k]? = some m' → m'.born ≠ n) : ms.find? (·.born == n) = some m := by
  rw [Array.find?_eq_some_iff_getElem]
  obtain ⟨hj1, hj2⟩ := List.getElem?_eq_some_iff.1 h
  rw [Array.length_toList] at hj1
  refine ⟨by simpa using hb, j, hj1, by simpa using hj2, fun k hk => ?_⟩
  have := hno k (ms[k]) hk (by simp [Nat.lt_trans hk hj1])
  simpa using this
theorem entry_out (hS : StRel X K w0 E st w) {x : Operand} {b : BO} (hb : cO x = some b) (ho : o.op = .entry x) (h : (xEntry st k (ev tm b)).holds Θ E.va R) : EffOut X K w0 Θ R E o tm st w k := by
  intro ρ hR
  have h1 := hR.get (x := x) (by rw [ho]; simp [Op.operands]) hb
  obtain ⟨r, hr, h⟩ := vbind_inv h
  rw [itOf_inv hr] at h1
  obtain ⟨p, hp, e0⟩ := it_den h1
  unfold entryO at h
  split at h
  · rename_i m since seen cl hob
    obtain ⟨n, hn, h⟩ := vbind_inv h
    obtain ⟨mm, hmm, h⟩ := vbind_inv h
    obtain ⟨hcl, h⟩ := vif_inv h
    obtain ⟨q, hq, h⟩ := vbind_inv h
    rw [beq_iff, decide_eq_true_eq] at hcl
    obtain ⟨hp2, ob, hh, hrel⟩ := obj_any hS hob hp
    cases ob <;> simp only [ObRel] at hrel
    rename_i m' c' l' d'
    obtain ⟨hm, rfl, hseen, rfl⟩ := hrel
    cases m' with
    | none => exact hm.elim
    | some idm =>
      have hm : E.m[m]? = some (some (idm, 0)) := hm
      obtain ⟨ms, hhm, hent⟩ := map_at hS (mapOf_inv hmm) hm
      obtain ⟨j, mt, _, g2, g3, g4, g5, g6⟩ := bornAt_sound hent hq
      have hf := find_born g3 g5 g6
      have hback : l'.back? = some n := by
        rw [lastL_eq, ← hseen] at hn
        rw [← Array.getLast?_toList]; exact hn
      have hrun : (execOp ρ o).run X.P w = .ok (.value (.tuple #[mt.key, mt.val])) w := by
        simp [execOp, ho, e0, hp2, Instr.entry, run_getO hh (by intros; exact Obj.noConfusion), hback, run_getMap hhm, hcl, hf]
      rw [hrun]
      exact .now h hS (den_tuple_of (denL_cons.2 ⟨_, _, g4.1, denL_cons.2 ⟨_, _, g4.2.1, rfl, rfl⟩, rfl⟩))
  · exact h.elim
end
end Go.Sy
/-! Calls; all operations. -/
namespace Go.Sy

def toExit : Ex → Exit
  | .normal => .normal
  | .exit i => .exit i
  | .goto l => .goto l
  | .ret => .ret
def RdRel (E : Env) : Option Nat → Option Nat → Prop
  | none, none => True
  | some l, some id => E.m[l]? = some (some (id, 0))
  | _, _ => False
theorem RdRel.mono {E E' : Env} (h : E.Le E') {rd r : Option Nat} (hr : RdRel E rd r) : RdRel E' rd r := by
  cases rd <;> cases r <;> first | exact hr | exact h.m _ _ hr
def CodeOut (X : Tabs) (K : Nat → Prop) (w0 : World) (Θ : Pred) (R : List Back) (E : Env) (st : St) (N : Nat) (k : Res → VC) : Exit → Act → World → Prop := fun e a' w' =>
  ∃ ex tm' ds' st' E' R', e = toExit ex ∧ R <+: R' ∧ (k (.code ex tm' ds' st')).holds Θ E'.va R' ∧ E.Le E' ∧ StRel X K w0 E' st' w' ∧ HP E E' st st' ∧ TmRel E' tm' ds' a' N
def OutV (X : Tabs) (K : Nat → Prop) (w0 : World) (Θ : Pred) (R : List Back) (E : Env) (st : St) (k : Res → VC) (y : Value) (w' : World) : Prop :=
  ∃ v st' E' R', R <+: R' ∧ (k (.val v st')).holds Θ E'.va R' ∧ E.Le E' ∧ StRel X K w0 E' st' w' ∧ HP E E' st st' ∧ v.den E' = some y
def BodyLoop (F : Fence) (P : Program) (c : Code) (Q : Exit → Act → World → Prop) (a : Act) (w : World) : Prop :=
  ∀ (b : Frame) (k : List Item) (cs : List Frame), b.roundOf = F.round → F.fn b.fn → F.room (cs.length + 1 + 0) →
    ∃ e a' w', Q e a' w' ∧ ArrivesIn (Machine.fenced P F) P (lone (b.atR a (.code c :: .inLoop c :: k)) cs w) b k cs e a' w'
theorem wp_of_bodyLoop {F : Fence} {P : Program} {c : Code} {Q : Exit → Act → World → Prop} {a : Act} {w : World} (h : BodyLoop F P c Q a w) : (Code.loop c).wpIn F 0 P Q a w :=
  fun b k cs hro hb hr => let ⟨e, a', w', q, r⟩ := h b k cs hro hb hr; ⟨e, a', w', q, .of_steps (.one (fenced_calm hb hr rfl) stepR_loop) r⟩
theorem bodyLoop_of_wp {F : Fence} {P : Program} {c : Code} {Q : Exit → Act → World → Prop} {a : Act} {w : World} (h : c.wpIn F 0 P (Exit.then (BodyLoop F P c Q) Q) a w) : BodyLoop F P c Q a w := by
  intro b k cs hro hb hr
  obtain ⟨e, a₁, w₁, hq, harr⟩ := h b (.inLoop c :: k) cs hro hb hr
  cases e with
  | normal =>
    obtain ⟨e₂, a₂, w₂, hq₂, harr₂⟩ := hq b k cs hro hb hr
    exact ⟨e₂, a₂, w₂, hq₂, .of_steps (StepsIn.trans harr (.one (fenced_calm hb hr rfl) stepR_inLoop)) harr₂⟩
  | exit id => exact ⟨_, a₁, w₁, hq, .pass (x := .inLoop c) rfl (fun _ _ => .inl (by simp)) harr⟩
  | goto l => exact ⟨_, a₁, w₁, hq, .pass (x := .inLoop c) rfl (fun _ _ => .inl (by simp)) harr⟩
  | ret => exact ⟨_, a₁, w₁, hq, .pass (x := .inLoop c) rfl (fun _ _ => .inl (by simp)) harr⟩
  | panic ch => exact ⟨_, a₁, w₁, hq, .pass (x := .inLoop c) rfl (fun _ _ => .inl (by simp)) harr⟩
  | outgrown => exact ⟨_, a₁, w₁, hq, .pass (x := .inLoop c) rfl (fun _ _ => .inl (by simp)) harr⟩

/-- What the answers to a task mean. -/
structure RecOK (X : Tabs) (K : Nat → Prop) (w0 : World) (Θ : Pred) (rec : Rec) : Prop where
  code : ∀ {c : BC} {tm : Tm} {ds : List Nat} {rd r : Option Nat} {st : St} {k : Res → VC} {E : Env} {R : List Back} {w : World} {a : Act} {N : Nat} {f : FuncId} {cd : Code}, CRel X f c cd → okCode N cd = true → RdRel E rd r → StRel X K w0 E st w → TmRel E tm ds a N →
    (rec (.code c tm ds rd) st k).holds Θ E.va R → cd.wpIn (FW r) 0 X.P (CodeOut X K w0 Θ R E st N k) a w
  loop : ∀ {c : BC} {an : Option Nat} {tm : Tm} {ds : List Nat} {rd r : Option Nat} {st : St} {k : Res → VC} {E : Env} {R : List Back} {w : World} {a : Act} {N : Nat} {f : FuncId} {cd : Code}, CRel X f c cd → okCode N cd = true → RdRel E rd r → StRel X K w0 E st w → TmRel E tm ds a N →
    (rec (.loop an c tm ds rd) st k).holds Θ E.va R → BodyLoop (FW r) X.P cd (CodeOut X K w0 Θ R E st N k) a w
  call : ∀ {f : FuncId} {args : List AV} {st : St} {k : Res → VC} {E : Env} {R : List Back} {w : World} {xs : List Value}, StRel X K w0 E st w → denL E args = some xs → (rec (.call f args) st k).holds Θ E.va R →
    OpRes X.P (OutV X K w0 Θ R E st k) ((callFunc f xs.toArray).run X.P w)
  round : ∀ {l id : Nat} {args : List AV} {st : St} {k : Res → VC} {E : Env} {R : List Back} {w : World} {xs : List Value}, StRel X K w0 E st w → E.m[l]? = some (some (id, 0)) → denL E args = some xs → (rec (.round l args) st k).holds Θ E.va R →
    OpRes X.P (OutV X K w0 Θ R E st k) ((Instr.yield id xs.toArray).run X.P w)

section
variable {X : Tabs} {K : Nat → Prop} {w0 : World} {E : Env} {st : St} {w : World} {Θ : Pred} {R : List Back} {tm : Tm} {k : Kt} {o : Oper} {rec : Rec}

theorem OutV.out {y : Value} {w' : World} (h : OutV X K w0 Θ R E st (valK k) y w') : Out X K w0 Θ R E st k y w' := h
theorem cOs_inv2 {l : List Operand} {bs : List BO} (h : cOs l = some bs) {ρ : Operand → Value} (hR : Rd E tm ρ l) : denL E (evs tm bs) = some (l.map ρ) := cOs_inv h hR
/-- A value is called. -/
theorem xCallv_out (hr : RecOK X K w0 Θ rec) (hS : StRel X K w0 E st w) {args : List AV} {v : AV} {xs : List Value} {y : Value} (h : (xCallv rec args st k v).holds Θ E.va R) (hv : v.den E = some y) (hx : denL E args = some xs) :
    ∃ d, (∀ w', (Deferred.ofValue y xs.toArray).run X.P w' = .ok d w') ∧ OpRes X.P (Out X K w0 Θ R E st k) ((invoke d.target d.args).run X.P w) := by
  unfold xCallv at h
  split at h
  · rename_i f a b
    obtain ⟨x1, x2, e1, e2, rfl⟩ := den_func' hv
    have hargs : denL E (app3 a args b) = some (x1 ++ (xs ++ x2)) := denL_append e1 (denL_append hx e2)
    have hc := hr.call hS hargs h
    refine ⟨_, fun w' => rfl, ?_⟩
    have harr : (x1.toArray ++ xs.toArray) ++ x2.toArray = (x1 ++ (xs ++ x2)).toArray := by apply Array.ext'; simp
    show OpRes X.P _ ((callFunc f ((x1.toArray ++ xs.toArray) ++ x2.toArray)).run X.P w)
    rw [harr]
    exact hc.mono fun v w h => h.out
  · rename_i l
    obtain ⟨id, hid, rfl⟩ := den_yld hv
    have hc := hr.round hS hid hx h
    refine ⟨_, fun w' => rfl, ?_⟩
    have harr : (#[] ++ xs.toArray) ++ #[] = xs.toArray := by simp
    show OpRes X.P _ ((Instr.yield id _).run X.P w)
    simp only [Array.empty_append]
    exact hc.mono fun v w h => h.out
  · exact h.elim
theorem callv_out (hr : RecOK X K w0 Θ rec) (hS : StRel X K w0 E st w) {f : Operand} {args : Array Operand} {tys : Array TypeId} {bs : List BO} {bf : BO} (hf : cO f = some bf) (hb : cOs args.toList = some bs) (ho : o.op = .call ⟨.value f, args, tys⟩)
    (h : (xCallv rec (evs tm bs) st k (ev tm bf)).holds Θ E.va R) : EffOut X K w0 Θ R E o tm st w k := by
  intro ρ hR
  have h1 := hR.get (x := f) (by rw [ho]; simp [Op.operands, Call.operands]) hf
  have h2 := cOs_inv (tm := tm) hb (E := E) (ρ := ρ) (fun x hx b hb => hR x (by rw [ho]; simp [Op.operands, Call.operands]; exact .inr (by simpa using hx)) b hb)
  obtain ⟨d, g1, g2⟩ := xCallv_out hr hS h h1 h2
  have e : (args.toList.map ρ).toArray = args.map ρ := by apply Array.ext'; simp
  rw [e] at g1
  have hrun : (execOp ρ o).run X.P w = (invoke d.target d.args).run X.P w := by
    simp [execOp, ho, resolve, g1 w]
  rw [hrun]; exact g2
theorem callf_out (hr : RecOK X K w0 Θ rec) (hS : StRel X K w0 E st w) {f : FuncId} {args : Array Operand} {tys : Array TypeId} {bs : List BO} (hb : cOs args.toList = some bs) (ho : o.op = .call ⟨.value (.func f), args, tys⟩)
    (h : (rec (.call f (evs tm bs)) st (valK k)).holds Θ E.va R) : EffOut X K w0 Θ R E o tm st w k := by
  intro ρ hR
  have h1 := hR.get (x := .func f) (b := .c (.func (.func f) [] [])) (by rw [ho]; simp [Op.operands, Call.operands]) rfl
  have h1 : ρ (.func f) = .func (.func f) #[] #[] := by
    have h0 : (AV.func (.func f) [] []).den E = some (ρ (.func f)) := h1
    obtain ⟨x1, x2, e1, e2, e⟩ := den_func' h0
    rw [e, denL_nil.1 e1, denL_nil.1 e2]
  have h2 := cOs_inv (tm := tm) hb (E := E) (ρ := ρ) (fun x hx b hb => hR x (by rw [ho]; simp [Op.operands, Call.operands]; exact .inr (by simpa using hx)) b hb)
  have g2 := hr.call hS h2 h
  have e : (args.toList.map ρ).toArray = args.map ρ := by apply Array.ext'; simp
  rw [e] at g2
  have hrun : (execOp ρ o).run X.P w = (callFunc f (args.map ρ)).run X.P w := by
    simp [execOp, ho, resolve, h1, Deferred.ofValue, invoke]
  rw [hrun]; exact g2.mono fun v w h => h.out
end
end Go.Sy
