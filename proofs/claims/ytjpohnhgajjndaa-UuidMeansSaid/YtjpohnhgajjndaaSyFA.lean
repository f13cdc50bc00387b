import Derived.Test.YtjpohnhgajjndaaSyF
/-! All operations. -/
namespace Go.Sy
section
variable {X : Tabs} {K : Nat → Prop} {w0 : World} {E : Env} {st : St} {w : World} {Θ : Pred} {R : List Back} {tm : Tm} {k : Kt} {o : Oper} {rec : Rec}

theorem sliceElem_inv {d : TypeDesc} {e : TypeId} (h : sliceElem d = some e) : d = .slice e := by
  unfold sliceElem at h; split at h
  · cases h; rfl
  · cases h
theorem builtin_eff (hc : CxOK X K w0) (hS : StRel X K w0 E st w) {b : BOp} {bi : Builtin} {args : Array Operand} {tys : Array TypeId} {bs : List BO} (ho : o.op = .call ⟨.builtin bi, args, tys⟩) (hbs : cOs args.toList = some bs)
    (hb : cBuiltin X.cx.und X.cx.size X.cx.zero tys.toList bs o.type bi = some b) (he : isEff b = true) (h : (xop b X.cx rec tm st k).holds Θ E.va R) : EffOut X K w0 Θ R E o tm st w k := by
  cases bi <;> simp only [cBuiltin] at hb
  case len =>
    obtain ⟨t, ht, hb⟩ := obind_inv hb
    obtain ⟨bx, hx, hb⟩ := obind_inv hb
    obtain ⟨d, hd, hb⟩ := obind_inv hb
    obtain ⟨n, hn, hb⟩ := obind_inv hb
    cases n with
    | some n => cases hb; cases he
    | none =>
      cases hb
      have : ∃ kt el, d = .map kt el := by
        unfold lenN at hn
        split at hn <;> try (cases hn; done)
        · exact ⟨_, _, rfl⟩
        · obtain ⟨d2, _, hn⟩ := obind_inv hn
          split at hn <;> cases hn
      obtain ⟨kt, el, rfl⟩ := this
      exact mlen_out hc hS ho hbs ht hx hd h
  case cap =>
    obtain ⟨t, ht, hb⟩ := obind_inv hb
    obtain ⟨bx, hx, hb⟩ := obind_inv hb
    obtain ⟨d, hd, hb⟩ := obind_inv hb
    obtain ⟨n, hn, hb⟩ := obind_inv hb
    cases n with
    | none => cases hb
    | some n =>
      change bif_ _ none _ = some b at hb
      cases hs : isStrD d <;> rw [hs] at hb
      · cases hb; cases he
      · cases hb
  case append =>
    obtain ⟨t, ht, hb⟩ := obind_inv hb
    obtain ⟨u, hu, hb⟩ := obind_inv hb
    obtain ⟨du, hdu, hb⟩ := obind_inv hb
    obtain ⟨hsrc, hb⟩ := bif_some hb
    obtain ⟨b0, h0, hb⟩ := obind_inv hb
    obtain ⟨bx, hx, hb⟩ := obind_inv hb
    obtain ⟨d, hd, hb⟩ := obind_inv hb
    obtain ⟨e, hel, hb⟩ := obind_inv hb
    obtain ⟨n, hn, hb⟩ := obind_inv hb
    obtain ⟨z, hz, hb⟩ := obind_inv hb
    obtain ⟨hpos, hb⟩ := bif_some hb
    cases hb
    have := sliceElem_inv hel
    subst this
    rw [blt_iff, decide_eq_true_eq] at hpos
    exact append_out hc hS ho hbs ht hu hdu hsrc h0 hx hd hn hz hpos h
  case copy =>
    obtain ⟨t, ht, hb⟩ := obind_inv hb
    obtain ⟨u, hu, hb⟩ := obind_inv hb
    obtain ⟨du, hdu, hb⟩ := obind_inv hb
    obtain ⟨hsrc, hb⟩ := bif_some hb
    obtain ⟨b0, h0, hb⟩ := obind_inv hb
    obtain ⟨bx, hx, hb⟩ := obind_inv hb
    obtain ⟨d, hd, hb⟩ := obind_inv hb
    obtain ⟨e, hel, hb⟩ := obind_inv hb
    obtain ⟨n, hn, hb⟩ := obind_inv hb
    cases hb
    have := sliceElem_inv hel
    subst this
    exact copy_out hc hS ho hbs ht h0 hx hd hn h
  case min =>
    obtain ⟨d, _, hb⟩ := obind_inv hb
    obtain ⟨_, hb⟩ := bif_some hb
    cases hb; cases he
  case max =>
    obtain ⟨d, _, hb⟩ := obind_inv hb
    obtain ⟨_, hb⟩ := bif_some hb
    cases hb; cases he
  case delete =>
    obtain ⟨t, ht, hb⟩ := obind_inv hb
    obtain ⟨bm, hm, hb⟩ := obind_inv hb
    obtain ⟨bk, hk, hb⟩ := obind_inv hb
    obtain ⟨p, hp, hb⟩ := obind_inv hb
    cases hb
    exact mdel_out hc hS ho hbs ht hm hk hp h
  case clear =>
    obtain ⟨t, ht, hb⟩ := obind_inv hb
    obtain ⟨bm, hm, hb⟩ := obind_inv hb
    obtain ⟨d, hd, hb⟩ := obind_inv hb
    split at hb
    · cases hb
      exact mclear_out hc hS ho hbs ht hm hd h
    · obtain ⟨z, hz, hb⟩ := obind_inv hb
      obtain ⟨n, hn, hb⟩ := obind_inv hb
      cases hb
      exact clearS_out hc hS ho hbs ht hm hd hz hn h
    · cases hb
  all_goals cases hb

theorem op_eff (hc : CxOK X K w0) (hr : RecOK X K w0 Θ rec) (hS : StRel X K w0 E st w) (hO : Oks E tm) {b : BOp} (hb : cOp X.cx.und X.cx.size X.cx.zero o.type o.op = some b) (he : isEff b = true) (h : (xop b X.cx rec tm st k).holds Θ E.va R) : EffOut X K w0 Θ R E o tm st w k := by
  cases ho : o.op <;> rw [ho] at hb <;> simp only [cOp] at hb
  case store t a x =>
    obtain ⟨n, hn, hb⟩ := obind_inv hb
    obtain ⟨ba, ha, hb⟩ := obind_inv hb
    obtain ⟨bx, hx, hb⟩ := obind_inv hb
    cases hb
    exact store_out hc hS hn ha hx ho h
  case convert s d x =>
    obtain ⟨sd, hs, hb⟩ := obind_inv hb
    obtain ⟨dd, hd, hb⟩ := obind_inv hb
    obtain ⟨bx, hx, hb⟩ := obind_inv hb
    cases hb
    exact conv_out hc hS hx hs hd ho he hO h
  case call c =>
    obtain ⟨cl, args, tys⟩ := c
    obtain ⟨bs, hbs, hb⟩ := obind_inv hb
    cases cl with
    | builtin bi => exact builtin_eff hc hS ho hbs hb he h
    | value f =>
      cases f with
      | func f => cases hb; exact callf_out hr hS hbs ho h
      | tmp x =>
        obtain ⟨bx, hx, hb⟩ := obind_inv (show obind (cO (.tmp x)) (fun x => some (BOp.callv x bs)) = some b from hb)
        cases hb; exact callv_out hr hS hx hbs ho h
      | const x =>
        obtain ⟨bx, hx, hb⟩ := obind_inv (show obind (cO (.const x)) (fun x => some (BOp.callv x bs)) = some b from hb)
        cases hb; exact callv_out hr hS hx hbs ho h
      | «global» x =>
        obtain ⟨bx, hx, hb⟩ := obind_inv (show obind (cO (.global x)) (fun x => some (BOp.callv x bs)) = some b from hb)
        cases hb; exact callv_out hr hS hx hbs ho h
    | invoke r n => cases hb
  case lookup t m kk ok =>
    obtain ⟨p, hp, hb⟩ := obind_inv hb
    obtain ⟨z, hz, hb⟩ := obind_inv hb
    obtain ⟨bm, hm, hb⟩ := obind_inv hb
    obtain ⟨bk, hk, hb⟩ := obind_inv hb
    cases hb
    exact mlook_out hc hS hp hz hm hk ho h
  case mapUpdate t m kk x =>
    obtain ⟨p, hp, hb⟩ := obind_inv hb
    obtain ⟨bm, hm, hb⟩ := obind_inv hb
    obtain ⟨bk, hk, hb⟩ := obind_inv hb
    obtain ⟨bv, hv, hb⟩ := obind_inv hb
    cases hb
    exact mput_out hc hS hp hm hk hv (.inl ho) h
  case insert t m kk x =>
    obtain ⟨p, hp, hb⟩ := obind_inv hb
    obtain ⟨bm, hm, hb⟩ := obind_inv hb
    obtain ⟨bk, hk, hb⟩ := obind_inv hb
    obtain ⟨bv, hv, hb⟩ := obind_inv hb
    cases hb
    exact mput_out hc hS hp hm hk hv (.inr ho) h
  case mapEntry t m kk =>
    obtain ⟨p, hp, hb⟩ := obind_inv hb
    obtain ⟨z, hz, hb⟩ := obind_inv hb
    obtain ⟨bm, hm, hb⟩ := obind_inv hb
    obtain ⟨bk, hk, hb⟩ := obind_inv hb
    cases hb
    exact mentry_out hc hS hp hz hm hk ho h
  case entryStore t m s v =>
    obtain ⟨bm, hm, hb⟩ := obind_inv hb
    obtain ⟨bs, hs, hb⟩ := obind_inv hb
    obtain ⟨bv, hv, hb⟩ := obind_inv hb
    cases hb
    exact mstore_out hS hO hm hs hv ho h
  case range t x =>
    obtain ⟨d, hd, hb⟩ := obind_inv hb
    obtain ⟨bx, hx, hb⟩ := obind_inv hb
    split at hb
    · cases hb; exact rngM_out hc hS hx hd ho h
    · cases hb; exact rngT_out hc hS hx hd ho h
    · cases hb
  case next x s =>
    obtain ⟨bx, hx, hb⟩ := obind_inv hb
    cases s
    · cases hb; exact nextM_out hS hx ho h
    · cases hb; exact nextT_out hS hx ho h
  case entry x =>
    obtain ⟨bx, hx, hb⟩ := obind_inv hb
    cases hb
    exact entry_out hS hx ho h
  case move x => obtain ⟨_, _, hb⟩ := obind_inv hb; cases hb; cases he
  case assign x => obtain ⟨_, _, hb⟩ := obind_inv hb; cases hb; cases he
  case pick c a b =>
    obtain ⟨_, _, hb⟩ := obind_inv hb
    obtain ⟨_, _, hb⟩ := obind_inv hb
    obtain ⟨_, _, hb⟩ := obind_inv hb
    cases hb; cases he
  case alloc t => obtain ⟨_, _, hb⟩ := obind_inv hb; cases hb; cases he
  case box t x => obtain ⟨_, _, hb⟩ := obind_inv hb; cases hb; cases he
  case build t ps =>
    obtain ⟨d, _, hb⟩ := obind_inv hb
    unfold cBuild at hb
    split at hb
    · obtain ⟨_, _, hb⟩ := obind_inv hb
      obtain ⟨_, _, hb⟩ := obind_inv hb
      cases hb; cases he
    · obtain ⟨_, _, hb⟩ := obind_inv hb
      obtain ⟨_, _, hb⟩ := obind_inv hb
      obtain ⟨_, _, hb⟩ := obind_inv hb
      cases hb; cases he
    · cases hb
  case buildSlice t n ps =>
    obtain ⟨d, _, hb⟩ := obind_inv hb
    unfold cBslice at hb
    split at hb
    · obtain ⟨_, _, hb⟩ := obind_inv hb
      obtain ⟨_, _, hb⟩ := obind_inv hb
      obtain ⟨_, _, hb⟩ := obind_inv hb
      obtain ⟨_, hb⟩ := bif_some hb
      cases hb; cases he
    · cases hb
  case load t a =>
    obtain ⟨_, _, hb⟩ := obind_inv hb
    obtain ⟨_, _, hb⟩ := obind_inv hb
    cases hb; cases he
  case nilCheck x => obtain ⟨_, _, hb⟩ := obind_inv hb; cases hb; cases he
  case binOp op t x y _ =>
    obtain ⟨_, _, hb⟩ := obind_inv hb
    obtain ⟨_, _, hb⟩ := obind_inv hb
    obtain ⟨_, _, hb⟩ := obind_inv hb
    cases hb; cases he
  case unOp op t x => obtain ⟨_, _, hb⟩ := obind_inv hb; cases hb; cases he
  case makeFunc fn a c =>
    obtain ⟨_, _, hb⟩ := obind_inv hb
    obtain ⟨_, _, hb⟩ := obind_inv hb
    cases hb; cases he
  case makeInterface t x =>
    obtain ⟨_, _, hb⟩ := obind_inv hb
    obtain ⟨_, hb⟩ := bif_some hb
    obtain ⟨_, _, hb⟩ := obind_inv hb
    cases hb; cases he
  case extract x i => obtain ⟨_, _, hb⟩ := obind_inv hb; cases hb; cases he
  case fieldAddr s x f =>
    obtain ⟨_, _, hb⟩ := obind_inv hb
    obtain ⟨_, _, hb⟩ := obind_inv hb
    obtain ⟨_, _, hb⟩ := obind_inv hb
    obtain ⟨n, _, hb⟩ := obind_inv hb
    obtain ⟨_, _, hb⟩ := obind_inv hb
    cases n <;> (cases hb; try cases he)
  case field s x f =>
    obtain ⟨_, _, hb⟩ := obind_inv hb
    obtain ⟨_, _, hb⟩ := obind_inv hb
    obtain ⟨_, _, hb⟩ := obind_inv hb
    obtain ⟨_, _, hb⟩ := obind_inv hb
    obtain ⟨_, _, hb⟩ := obind_inv hb
    cases hb; cases he
  case indexAddr t x i =>
    obtain ⟨_, _, hb⟩ := obind_inv hb
    obtain ⟨_, _, hb⟩ := obind_inv hb
    obtain ⟨_, _, hb⟩ := obind_inv hb
    unfold cIadr at hb
    split at hb
    · obtain ⟨_, _, hb⟩ := obind_inv hb; cases hb; cases he
    · obtain ⟨_, _, hb⟩ := obind_inv hb; cases hb; cases he
    · cases hb
  case index t x i =>
    obtain ⟨_, _, hb⟩ := obind_inv hb
    obtain ⟨_, _, hb⟩ := obind_inv hb
    obtain ⟨_, _, hb⟩ := obind_inv hb
    unfold cIdx at hb
    split at hb
    · obtain ⟨_, _, hb⟩ := obind_inv hb
      obtain ⟨_, _, hb⟩ := obind_inv hb
      cases hb; cases he
    · cases hb; cases he
    · cases hb
  case makeSlice t l c =>
    obtain ⟨_, _, hb⟩ := obind_inv hb
    obtain ⟨_, _, hb⟩ := obind_inv hb
    obtain ⟨_, _, hb⟩ := obind_inv hb
    obtain ⟨_, _, hb⟩ := obind_inv hb
    obtain ⟨_, _, hb⟩ := obind_inv hb
    obtain ⟨_, _, hb⟩ := obind_inv hb
    obtain ⟨_, hb⟩ := bif_some hb
    cases hb; cases he
  case slice t x lo hi mx =>
    obtain ⟨_, _, hb⟩ := obind_inv hb
    obtain ⟨_, _, hb⟩ := obind_inv hb
    obtain ⟨_, _, hb⟩ := obind_inv hb
    obtain ⟨_, _, hb⟩ := obind_inv hb
    obtain ⟨_, _, hb⟩ := obind_inv hb
    obtain ⟨_, hb⟩ := bif_some hb
    unfold cSlice at hb
    split at hb
    · obtain ⟨_, _, hb⟩ := obind_inv hb; cases hb; cases he
    · obtain ⟨_, _, hb⟩ := obind_inv hb; cases hb; cases he
    · obtain ⟨_, _, hb⟩ := obind_inv hb
      split at hb
      · obtain ⟨_, _, hb⟩ := obind_inv hb; cases hb; cases he
      · cases hb
    · split at hb
      · cases hb; cases he
      · cases hb
    · cases hb
  case sliceToArrayPointer t x =>
    obtain ⟨_, _, hb⟩ := obind_inv hb
    split at hb
    · obtain ⟨_, _, hb⟩ := obind_inv hb; cases hb; cases he
    · cases hb
  case typeAssert x xt t ok =>
    obtain ⟨_, _, hb⟩ := obind_inv hb
    obtain ⟨_, hb⟩ := bif_some hb
    obtain ⟨_, _, hb⟩ := obind_inv hb
    obtain ⟨_, _, hb⟩ := obind_inv hb
    cases hb; cases he
  case makeMap t r =>
    obtain ⟨_, hb⟩ := bif_some hb
    obtain ⟨_, _, hb⟩ := obind_inv hb
    obtain ⟨_, _, hb⟩ := obind_inv hb
    obtain ⟨_, _, hb⟩ := obind_inv hb
    cases hb; cases he
  all_goals cases hb

theorem op_out (hc : CxOK X K w0) (hr : RecOK X K w0 Θ rec) (hS : StRel X K w0 E st w) (hO : Oks E tm) {b : BOp} (hb : cOp X.cx.und X.cx.size X.cx.zero o.type o.op = some b) (h : (xop b X.cx rec tm st k).holds Θ E.va R) : EffOut X K w0 Θ R E o tm st w k := by
  cases he : isEff b with
  | true => exact op_eff hc hr hS hO hb he h
  | false => exact (mov_out hc hS hO hb he h).eff
theorem op_notDefer {und : Tr TypeDesc} {size : Tr Nat} {zero : Tr (List AV)} {t : TypeId} {op : Op} {b : BOp} (hb : cOp und size zero t op = some b) : notDefer op = true := by
  cases op <;> first | rfl | (simp only [cOp] at hb; cases hb)
end
end Go.Sy
