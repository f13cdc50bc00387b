import Derived.Test.YtjpohnhgajjndaaSyPG
import Derived.Laws.Tables
import Derived.Laws.MakeOwn
import Derived.Great.BuildSlice
import Derived.ChangeMaps3
/-! Operations that leave memory as it is: parts, places, slices. -/
namespace Go.Sy
section
variable {X : Tabs} {K : Nat → Prop} {w0 : World} {E : Env} {st : St} {w : World} {Θ : Pred} {R : List Back} {tm : Tm} {k : Kt} {o : Oper}

/-- A part of a type of that form. -/
theorem part_sound (hc : CxOK X K w0) {t : TypeId} {g : Option Nat} (hg : aggN X.cx.und X.cx.size t = some g) {l : List AV} {off : Nat} {v : AV} (h : part g l off = some v) {E : Env} {xs : List Value} (hx : denL E l = some xs) :
    ∃ y, v.den E = some y ∧ ∀ w, (Go.part t xs.toArray off).run X.P w = .ok y w := by
  cases g with
  | none =>
    change getL off l = some v at h
    rw [getL_eq] at h
    obtain ⟨y, h1, h2⟩ := denL_get hx h
    refine ⟨y, h1, fun w => ?_⟩
    have hi := (aggN_sound hc hg w).1
    simp only [Option.isSome_none] at hi
    simp [Go.part, hi, h2]
  | some n =>
    obtain ⟨_, h⟩ := bif_some h
    cases h
    rw [takeL_eq, dropL_eq]
    refine ⟨.agg ((xs.drop off).take n).toArray, den_agg_of (denL_take n (denL_drop off hx)), fun w => ?_⟩
    obtain ⟨hi, hs⟩ := aggN_sound hc hg w
    simp only [Option.isSome_some] at hi
    simp only [Go.part, Sem.run_bind, hi, Result.andThen_ok, if_true, hc.size' (hs n rfl), Sem.run_pure]
    congr 2
    apply Array.ext'
    simp [Nat.add_sub_cancel_left]

/-! ### Composite values -/
theorem denL_fillAt : ∀ {vs l : List AV} {ys xs : List Value} (off : Nat), denL E vs = some ys → denL E l = some xs → denL E (fillAt off vs l) = some (fillAt off ys xs)
  | [], l, ys, xs, off, h, hl => by rw [denL_nil.1 h]; exact hl
  | v :: r, l, ys, xs, off, h, hl => by
    obtain ⟨p, q, hp, hq, rfl⟩ := denL_cons.1 h
    simp only [fillAt, setL_eq]
    exact denL_fillAt _ hq (denL_set off hl hp)
theorem fold_fillAt : ∀ (ys : List Value) (s off : Nat) (cs : Array Value), ((ys.zipIdx s).foldl (fun cs x => cs.setIfInBounds (off + x.2) x.1) cs).toList = fillAt (off + s) ys cs.toList
  | [], s, off, cs => by simp [fillAt]
  | y :: r, s, off, cs => by
    simp only [List.zipIdx_cons, List.foldl_cons, fillAt, setL_eq]
    rw [fold_fillAt r (s + 1) off]
    simp [Nat.add_assoc]
/-- What is put in, at places that are known. -/
theorem build_sound {place place' : Nat → Option (Nat × Nat)} (hpl : ∀ i p, place i = some p → place' i = some p) {E : Env} {ρ : Operand → Value} :
    ∀ {parts : List (Nat × Operand)} {ps : List (Nat × Nat × BO)} {l l' : List AV} {xs : List Value}, cParts place parts = some ps → buildP (evPs tm ps) l = some l' → denL E l = some xs → Rd E tm ρ (parts.map (·.2)) →
      ∃ xs', denL E l' = some xs' ∧ Instr.fill place' xs.toArray (parts.map fun p => (p.1, ρ p.2)) = some xs'.toArray
  | [], ps, l, l', xs, hp, h, hl, _ => by
    cases hp
    cases h
    exact ⟨xs, hl, rfl⟩
  | (i, x) :: parts, ps, l, l', xs, hp, h, hl, hR => by
    change obind (place i) (fun q => obind (cO x) fun b => obind (cParts place parts) fun r => some ((q.1, (q.2, b)) :: r)) = some ps at hp
    obtain ⟨q, hq, hp⟩ := obind_inv hp
    obtain ⟨b, hb, hp⟩ := obind_inv hp
    obtain ⟨r, hr, hp⟩ := obind_inv hp
    cases hp
    change bif_ (Nat.beq q.2 (lenL (ev tm b).cells) && Nat.ble (Nat.add q.1 q.2) (lenL l)) (buildP (evPs tm r) (fillAt q.1 (ev tm b).cells l)) none = some l' at h
    obtain ⟨hcond, h⟩ := bif_some h
    simp only [Bool.and_eq_true, beq_iff, ble_iff, decide_eq_true_eq, lenL_eq, natAdd] at hcond
    obtain ⟨e1, e2⟩ := hcond
    have hy := hR x (by simp) b hb
    obtain ⟨ys, hys, hcs⟩ := den_cells hy
    have hl1 := denL_length hys
    have hl2 := denL_length hl
    obtain ⟨xs', h3, h4⟩ := build_sound hpl hr h (denL_fillAt q.1 hys hl) (fun y hy => hR y (by simp only [List.map_cons]; exact List.mem_cons_of_mem _ hy))
    refine ⟨xs', h3, ?_⟩
    have hsz : (ρ x).cells.size = q.2 := by rw [e1, ← hl1, ← hcs]; simp
    have hfold : ((ρ x).cells.zipIdx.foldl (fun cs x => cs.setIfInBounds (q.1 + x.2) x.1) xs.toArray) = (fillAt q.1 ys xs).toArray := by
      apply Array.ext'
      rw [← Array.foldl_toList, Array.toList_zipIdx, hcs]
      simpa using fold_fillAt ys 0 q.1 xs.toArray
    simp only [List.map_cons, Instr.fill, hpl _ q hq]
    rw [if_neg (by simp [hsz]; omega)]
    rw [hfold]
    exact h4
theorem placeS_ok (hc : CxOK X K w0) {t : TypeId} {fs : Array Field} (hd : X.cx.und.get t = some (.struct fs)) :
    ∃ places, fs.toList.mapM (fun f => (X.P.info? f.type).map fun i => (f.offset, i.size)) = some places ∧ ∀ i p, placeS X.cx.size fs.toList i = some p → places[i]? = some p := by
  refine ⟨fs.toList.map fun f => (((X.P.info? f.type).map fun i => (f.offset, i.size)).getD (0, 0)), ChangeMaps.mapM_total _ fun f hf => ?_, fun i p hp => ?_⟩
  · obtain ⟨i, hi⟩ := hc.fld t fs hd f hf; exact ⟨_, by rw [hi]; rfl⟩
  · obtain ⟨f, hf, hp⟩ := obind_inv hp
    obtain ⟨n, hn, hp⟩ := obind_inv hp
    cases hp
    rw [getL_eq] at hf
    obtain ⟨i', hi', hn'⟩ := hc.size _ _ hn
    simp [hf, hi', hn']
theorem ops_build {t : TypeId} {parts : Array (Nat × Operand)} (ho : o.op = .build t parts) : o.op.operands.toList = parts.toList.map (·.2) := by rw [ho]; rfl
theorem cBuild_out (hc : CxOK X K w0) {cxr : Rec} {t : TypeId} {parts : Array (Nat × Operand)} {d : TypeDesc} {b : BOp} (hd : X.cx.und.get t = some d) (hb : cBuild X.cx.size X.cx.zero t parts.toList d = some b) (h : (xop b X.cx cxr tm st k).holds Θ E.va R) (hf : FOK E.va st.facts) (ho : o.op = .build t parts) :
    ValOut X Θ R E o tm st k := by
  have hu := hc.und t d hd
  unfold cBuild at hb
  split at hb
  · rename_i fs
    obtain ⟨z, hz, hb⟩ := obind_inv hb
    obtain ⟨ps, hps, hb⟩ := obind_inv hb
    cases hb
    obtain ⟨l, hl, h⟩ := vbind_inv h
    obtain ⟨it, zv, h1, h2, h3, h4, h5, _⟩ := hc.zero t z hz
    obtain ⟨places, hp1, hp2⟩ := placeS_ok hc hd
    refine .now h hf fun E' ρ hE hR => ?_
    rw [ops_build ho] at hR
    obtain ⟨xs', e1, e2⟩ := build_sound (place' := (places.toArray[·]?)) (fun i p hp => by simpa using hp2 i p hp) hps hl (h5 E') hR
    refine ⟨_, den_agg_of e1, fun w => ?_⟩
    have hex : (execOp ρ o).run X.P w = ((Instr.build t (parts.map fun (i, x) => (i, ρ x))) >>= fun v => pure (Next.value v) : Sem Next).run X.P w := by simp only [execOp, ho]
    rw [hex]
    have := run_build (P := X.P) w t (parts.map fun (i, x) => (i, ρ x)) xs'.toArray (by simp only [Program.built, h1, hu, h2, hp1]; simpa using e2)
    simp [this]
  · rename_i n e
    obtain ⟨z, hz, hb⟩ := obind_inv hb
    obtain ⟨s, hs, hb⟩ := obind_inv hb
    obtain ⟨ps, hps, hb⟩ := obind_inv hb
    cases hb
    obtain ⟨l, hl, h⟩ := vbind_inv h
    obtain ⟨it, zv, h1, h2, h3, h4, h5, _⟩ := hc.zero t z hz
    obtain ⟨ie, hie, e0⟩ := hc.size _ _ hs
    refine .now h hf fun E' ρ hE hR => ?_
    rw [ops_build ho] at hR
    obtain ⟨xs', e1, e2⟩ := build_sound (place' := fun i => some (i * ie.size, ie.size)) (fun i p hp => by rw [e0]; exact hp) hps hl (h5 E') hR
    refine ⟨_, den_agg_of e1, fun w => ?_⟩
    have hex : (execOp ρ o).run X.P w = ((Instr.build t (parts.map fun (i, x) => (i, ρ x))) >>= fun v => pure (Next.value v) : Sem Next).run X.P w := by simp only [execOp, ho]
    rw [hex]
    have := run_build (P := X.P) w t (parts.map fun (i, x) => (i, ρ x)) xs'.toArray (by simp only [Program.built, h1, hu, h2, hie]; simpa using e2)
    simp [this]
  · cases hb

/-! ### Places -/
theorem den_bound {i : Nat} {P : Program} {kd : IntKind} {x : Value} (h : x = .int kd i) (w : World) : (asIntOf x).run P w = .ok (kd, (i : Int)) w := by subst h; rfl
theorem xFadr_out (hc : CxOK X K w0) {s : TypeId} {x : Operand} {fa : Array Field} {f : Nat} {fl : Field} {n : Nat} {b : BO} (hb : cO x = some b) (hd : X.cx.und.get s = some (.struct fa)) (hfl : fa[f]? = some fl) (hn : X.cx.size.get fl.type = some (n + 1)) (ho : o.op = .fieldAddr s x f)
    (h : (xFadr fl.offset st k (ev tm b)).holds Θ E.va R) (hf : FOK E.va st.facts) : ValOut X Θ R E o tm st k := by
  obtain ⟨a, ha, h⟩ := vbind_inv h
  rw [natK_eq] at h
  have hp := asPtr_inv ha
  refine .now h hf fun E' ρ hE hR => ?_
  have hx := hR.get (x := x) (by rw [ho]; simp [Op.operands]) hb
  rw [hp] at hx
  obtain ⟨ad, had, e0⟩ := den_ptr hx
  refine ⟨_, den_ptr_of (aden_add (b := a.b) (off := a.off) had fl.offset), fun w => ?_⟩
  simp [execOp, ho, e0, Instr.fieldAt, hc.und' hd, hfl, Instr.sureAddr, fieldPlace, hc.size' hn]
theorem xFld_out (hc : CxOK X K w0) {s : TypeId} {x : Operand} {fa : Array Field} {f : Nat} {fl : Field} {g : Option Nat} {b : BO} (hb : cO x = some b) (hd : X.cx.und.get s = some (.struct fa)) (hfl : fa[f]? = some fl) (hg : aggN X.cx.und X.cx.size fl.type = some g) (ho : o.op = .field s x f)
    (h : (xFld g fl.offset st k (ev tm b)).holds Θ E.va R) (hf : FOK E.va st.facts) : ValOut X Θ R E o tm st k := by
  obtain ⟨l, hl, h⟩ := vbind_inv h
  obtain ⟨v, hv, h⟩ := outK_inv h
  have hp := asAgg_inv hl
  refine .now h hf fun E' ρ hE hR => ?_
  have hx := hR.get (x := x) (by rw [ho]; simp [Op.operands]) hb
  rw [hp] at hx
  obtain ⟨xs, hxs, e0⟩ := den_agg hx
  obtain ⟨y, h1, h2⟩ := part_sound hc hg hv hxs
  exact ⟨y, h1, fun w => by simp [execOp, ho, e0, Instr.field, hc.und' hd, hfl, Go.asAgg, h2]⟩
theorem elem_den {E : Env} {a : AAddr} {ad : Addr} (had : aden E a = some ad) (i es : Nat) : (AV.ptr (some ⟨a.b, Nat.add a.off (Nat.mul i es)⟩)).den E = some (.pointer (some (ad.add (i * es)))) :=
  den_ptr_of (aden_add (b := a.b) (off := a.off) had (i * es))
theorem xIadrA_out (hc : CxOK X K w0) (hO : Oks E tm) {t e : TypeId} {n es : Nat} {x i : Operand} {bx bi : BO} (hx : cO x = some bx) (hi : cO i = some bi) (hd : X.cx.und.get t = some (.array n e)) (hs : X.cx.size.get e = some es) (ho : o.op = .indexAddr t x i)
    (h : (xIadrA n es (ev tm bi) st k (ev tm bx)).holds Θ E.va R) (hf : FOK E.va st.facts) : ValOut X Θ R E o tm st k := by
  obtain ⟨a, ha, h⟩ := vbind_inv h
  obtain ⟨j, f, hj, hf', h, kd, hval⟩ := idxK_inv h hf (hO.ev hi)
  simp only [elemK, natK_eq] at h
  refine ⟨_, f, h, hf', fun E' ρ hE hR => ?_⟩
  have hx := hR.get (x := x) (by rw [ho]; simp [Op.operands]) hx
  have hi := hval E' _ hE (hR.get (x := i) (by rw [ho]; simp [Op.operands]) hi)
  rw [asPtr_inv ha] at hx
  obtain ⟨ad, had, e0⟩ := den_ptr hx
  exact ⟨_, elem_den had j es, fun w => by simp [execOp, ho, e0, hi, Instr.indexAt, asIntOf, hc.und' hd, Instr.sureAddr, hj, hc.size' hs]⟩
theorem xIadrS_out (hc : CxOK X K w0) (hO : Oks E tm) {t e : TypeId} {es : Nat} {x i : Operand} {bx bi : BO} (hx : cO x = some bx) (hi : cO i = some bi) (hd : X.cx.und.get t = some (.slice e)) (hs : X.cx.size.get e = some es) (ho : o.op = .indexAddr t x i)
    (h : (xIadrS es (ev tm bi) st k (ev tm bx)).holds Θ E.va R) (hf : FOK E.va st.facts) : ValOut X Θ R E o tm st k := by
  unfold xIadrS at h
  split at h
  · rename_i a n c hev
    obtain ⟨j, f, hj, hf', h, kd, hval⟩ := idxK_inv h hf (hO.ev hi)
    simp only [elemK, natK_eq] at h
    refine ⟨_, f, h, hf', fun E' ρ hE hR => ?_⟩
    have hx := hR.get (x := x) (by rw [ho]; simp [Op.operands]) hx
    have hi := hval E' _ hE (hR.get (x := i) (by rw [ho]; simp [Op.operands]) hi)
    rw [hev] at hx
    rcases den_slice_inv hx with ⟨h, _⟩ | ⟨p, ad, cp, e1, had, _, _, e0⟩
    · cases h
    · cases e1
      exact ⟨_, elem_den had j es, fun w => by simp [execOp, ho, e0, hi, Instr.indexAt, asIntOf, hc.und' hd, hj, hc.size' hs]⟩
  · exact h.elim
theorem xIdxA_out (hc : CxOK X K w0) (hO : Oks E tm) {t e : TypeId} {n es : Nat} {g : Option Nat} {x i : Operand} {bx bi : BO} (hx : cO x = some bx) (hi : cO i = some bi) (hd : X.cx.und.get t = some (.array n e)) (hs : X.cx.size.get e = some es) (hg : aggN X.cx.und X.cx.size e = some g) (ho : o.op = .index t x i)
    (h : (xIdxA n es g (ev tm bi) st k (ev tm bx)).holds Θ E.va R) (hf : FOK E.va st.facts) : ValOut X Θ R E o tm st k := by
  obtain ⟨l, hl, h⟩ := vbind_inv h
  obtain ⟨j, f, hj, hf', h, kd, hval⟩ := idxK_inv h hf (hO.ev hi)
  obtain ⟨v, hv, h⟩ := outK_inv h
  refine ⟨_, f, h, hf', fun E' ρ hE hR => ?_⟩
  have hx := hR.get (x := x) (by rw [ho]; simp [Op.operands]) hx
  have hi := hval E' _ hE (hR.get (x := i) (by rw [ho]; simp [Op.operands]) hi)
  rw [asAgg_inv hl] at hx
  obtain ⟨xs, hxs, e0⟩ := den_agg hx
  obtain ⟨y, h1, h2⟩ := part_sound hc hg hv hxs
  rw [natMul] at h2
  exact ⟨y, h1, fun w => by simp [execOp, ho, e0, hi, Instr.index, asIntOf, hc.und' hd, hj, hc.size' hs, h2]⟩
theorem bytesOf_get {s : List Nat} {i c : Nat} (h : s[i]? = some c) (hc : c < 256) : ∃ b : UInt8, (bytesOf s)[i]? = some b ∧ b.toNat = c := by
  have hlt : i < (bytesOf s).size := by rw [bytesOf_size]; exact (List.getElem?_eq_some_iff.1 h).1
  refine ⟨UInt8.ofNat c, ?_, toU8 hc⟩
  have h2 : (s.map UInt8.ofNat).toArray[i]? = some (UInt8.ofNat c) := by simp [h]
  have h3 : (bytesOf s).data[i]? = some (UInt8.ofNat c) := h2
  rw [getElem?_pos (bytesOf s) i hlt]
  have h4 := (Array.getElem?_eq_some_iff.1 h3).2
  rw [← h4]; rfl
theorem xIdxS_out (hc : CxOK X K w0) (hO : Oks E tm) {t : TypeId} {x i : Operand} {bx bi : BO} (hx : cO x = some bx) (hi : cO i = some bi) (hd : X.cx.und.get t = some .string) (ho : o.op = .index t x i)
    (h : (xIdxS (ev tm bi) st k (ev tm bx)).holds Θ E.va R) (hf : FOK E.va st.facts) : ValOut X Θ R E o tm st k := by
  unfold xIdxS at h
  split at h
  · rename_i n s hev
    obtain ⟨j, f, hj, hf', h, kd, hval⟩ := idxK_inv h hf (hO.ev hi)
    obtain ⟨v, hv, h⟩ := outK_inv h
    refine ⟨_, f, h, hf', fun E' ρ hE hR => ?_⟩
    have hx := hR.get (x := x) (by rw [ho]; simp [Op.operands]) hx
    have hi := hval E' _ hE (hR.get (x := i) (by rw [ho]; simp [Op.operands]) hi)
    rw [hev] at hx
    obtain ⟨hn, hs, e0⟩ := den_str hx
    rw [getL_eq] at hv
    cases hc' : s[j]? with
    | none => rw [hc'] at hv; cases hv
    | some c =>
      rw [hc'] at hv
      cases hv
      have hlt := hs c (List.mem_of_getElem? hc')
      obtain ⟨b, hb1, hb2⟩ := bytesOf_get hc' hlt
      refine ⟨_, den_int_of (by simp only [modOf]; exact hlt), fun w => ?_⟩
      have e3 : sgn .u8 c = (c : Int) := sgn_nat .u8 (by simp only [halfOf]; exact hlt)
      simp [execOp, ho, e0, hi, Instr.index, asIntOf, hc.und' hd, hb1, hb2, e3]
  · exact h.elim

/-! ### Slices -/
/-- What a bound is. -/
def BndR (ρ : Operand → Value) (d i : Nat) (lo : Option Operand) : Prop := (lo = none ∧ i = d) ∨ ∃ y kd, lo = some y ∧ ρ y = .int kd i
theorem bnd_of {d i : Nat} {lo : Option Operand} (h : (lo = none ∧ i = d) ∨ ∃ y b kd, lo = some y ∧ cO y = some b ∧ ∀ E' x, E.Le E' → (ev tm b).den E' = some x → x = .int kd i) {E' : Env} (hE : E.Le E') {ρ : Operand → Value} {l : List Operand} (hR : Rd E' tm ρ l)
    (hm : ∀ y, lo = some y → y ∈ l) : BndR ρ d i lo := by
  rcases h with h | ⟨y, b, kd, e1, e2, e3⟩
  · exact .inl h
  · exact .inr ⟨y, kd, e1, e3 E' _ hE (hR y (hm y e1) b e2)⟩
theorem run_bound {P : Program} {i m : Nat} {kd : IntKind} (hi : i ≤ m) (c : BoundsCode) (w : World) : (Instr.sliceBound (.int kd i) m c).run P w = .ok i w := by
  simp [Instr.sliceBound, asIntOf, hi]
theorem run_bounds {P : Program} {ρ : Operand → Value} {b : Bool} {n c l h m : Nat} {lo hi mx : Option Operand} (hl : BndR ρ 0 l lo) (hh : BndR ρ n h hi) (hm : BndR ρ c m mx) (hhm : mx.isSome = true → hi.isSome = true) (h1 : l ≤ h) (h2 : h ≤ m) (h3 : m ≤ c) (w : World) :
    (Instr.sliceBounds b n c (lo.map ρ) (hi.map ρ) (mx.map ρ)).run P w = .ok (l, h, m) w := by
  rcases hm with ⟨rfl, rfl⟩ | ⟨z, kz, rfl, hz⟩
  · rcases hl with ⟨rfl, rfl⟩ | ⟨x, kx, rfl, hx⟩ <;> rcases hh with ⟨rfl, rfl⟩ | ⟨y, ky, rfl, hy⟩ <;> simp only [Instr.sliceBounds, Option.map_none, Option.map_some, Sem.run_bind, Sem.run_pure, Result.andThen_ok, *] <;>
      first | rfl | (rw [run_bound (by assumption)]; first | rfl | (simp only [Result.andThen_ok]; rw [run_bound (by assumption)]; rfl))
  · rcases hh with ⟨rfl, rfl⟩ | ⟨y, ky, rfl, hy⟩
    · simp at hhm
    · rcases hl with ⟨rfl, rfl⟩ | ⟨x, kx, rfl, hx⟩
      · simp only [Instr.sliceBounds, Option.map_none, Option.map_some, Sem.run_bind, Sem.run_pure, hy, hz, run_bound h2, run_bound h3, Result.andThen_ok]
      · simp only [Instr.sliceBounds, Option.map_some, Sem.run_bind, Sem.run_pure, hx, hy, hz, run_bound h1, run_bound h2, run_bound h3, Result.andThen_ok]
end
end Go.Sy
