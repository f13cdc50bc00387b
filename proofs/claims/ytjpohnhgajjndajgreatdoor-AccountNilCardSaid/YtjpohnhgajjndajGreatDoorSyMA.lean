import Derived.Test.YtjpohnhgajjndajGreatDoorSyM
/-! Operations that may come late: all of them. -/
namespace Go.Sy
section
variable {X : Tabs} {K : Nat → Prop} {w0 : World} {E : Env} {st : St} {w : World} {Θ : Pred} {R : List Back} {tm : Tm} {k : Kt} {o : Oper}

theorem arr0 {α : Type} (f : Nat → α) : (Array.range 0).map f = #[] := by apply Array.ext'; simp [Array.toList_range]
theorem run_buildSlice0 {P : Program} (w : World) (t e : TypeId) (parts : Array (Nat × Value)) (cells : Array Value) (ie : TypeInfo) (hu : P.underlying t = some (.slice e)) (hie : P.info? e = some ie)
    (h : Instr.fill (fun i => some (i * ie.size, ie.size)) #[] parts.toList = some cells) :
    (Instr.buildSlice t 0 parts).run P w = .ok (.slice (some ⟨w.heap.size, 0, none⟩) 0 0) (w.alloc (.cells cells e)) := by
  have e0 : Array.map (fun _ => (default : Value)) (Array.range 0) = #[] := arr0 _
  simp [Instr.buildSlice, run_underlying hu, sizeOf, typeInfo, hie, newRow]
  rw [e0, h]
  simp
theorem run_buildSliceAny {P : Program} (w : World) (t e : TypeId) (len : Nat) (parts : Array (Nat × Value)) (cells : Array Value) (ie : TypeInfo) (z : Value) (hu : P.underlying t = some (.slice e)) (hie : P.info? e = some ie) (hz : ie.zero = some z) (hsmall : len * ie.size ≤ 65536) (hpos : 0 < ie.size)
    (h : Instr.fill (fun i => some (i * ie.size, ie.size)) ((Array.range (len * ie.size)).map (z.cells[· % z.cells.size]!)) parts.toList = some cells) :
    (Instr.buildSlice t len parts).run P w = .ok (.slice (some ⟨w.heap.size, 0, none⟩) len len) (w.alloc (.cells cells e)) := by
  rcases Nat.eq_zero_or_pos len with c | c
  · subst c
    refine run_buildSlice0 w t e parts cells ie hu hie ?_
    rw [Nat.zero_mul, arr0] at h
    exact h
  · have := Nat.mul_pos c hpos
    exact run_buildSlice w t e len parts cells ie z hu hie hz (by omega) (by omega) h
theorem rep_made (z : List Value) : ∀ n : Nat, (List.replicate n z).flatten = (madeCells z.toArray (n * z.length)).toList := by
  intro n
  apply List.ext_getElem?
  intro i
  simp only [madeCells, Array.toList_map, Array.toList_range, List.getElem?_map]
  by_cases c : i < n * z.length
  · rw [List.getElem?_range c]
    simp only [Option.map_some]
    induction n generalizing i with
    | zero => simp at c
    | succ n ih =>
      rw [List.replicate_succ, List.flatten_cons]
      by_cases c2 : i < z.length
      · rw [List.getElem?_append_left c2, Nat.mod_eq_of_lt (by simpa using c2)]
        simp [c2, getElem!_pos]
      · rw [List.getElem?_append_right (by omega)]
        have hm : i % z.toArray.size = (i - z.length) % z.toArray.size := by simp; rw [Nat.mod_eq_sub_mod (by omega)]
        rw [hm]
        exact ih (i - z.length) (by rw [Nat.succ_mul] at c; omega)
  · rw [List.getElem?_eq_none (by simp [List.length_flatten]; omega), List.getElem?_eq_none (by simp; omega)]
    rfl
theorem bslice_out {bo : BOp} {cxr : Rec} (hc : CxOK X K w0) (hS : StRel X K w0 E st w) (hO : Oks E tm) {t : TypeId} {len : Nat} {parts : Array (Nat × Operand)} {d : TypeDesc} {b : BOp} (hd : X.cx.und.get t = some d) (hb : cBslice X.cx.size X.cx.zero len parts.toList d = some b) (ho : o.op = .buildSlice t len parts)
    (h : (xop b X.cx cxr tm st k).holds Θ E.va R) (hbo : ∀ n a, bo ≠ .load n a := by intro _ _ hh; cases hh) : MovOut X K w0 Θ R E o tm bo st w k := by
  have hu := hc.und t d hd
  have hops : o.op.operands.toList = parts.toList.map (·.2) := by rw [ho]; rfl
  unfold cBslice at hb
  split at hb
  · rename_i e
    obtain ⟨n, hn, hb⟩ := obind_inv hb
    obtain ⟨z, hz, hb⟩ := obind_inv hb
    obtain ⟨ps, hps, hb⟩ := obind_inv hb
    obtain ⟨hcond, hb⟩ := bif_some hb
    cases hb
    simp only [Bool.and_eq_true, ble_iff, blt_iff, decide_eq_true_eq, natMul] at hcond
    obtain ⟨l, hl, h⟩ := vbind_inv h
    rw [newCells_eq] at h
    obtain ⟨ie, hie, hne⟩ := hc.size _ _ hn
    obtain ⟨it, zv, h1, h2, h3, h4, h5, _⟩ := hc.zero e z hz
    rw [hie] at h1; cases h1
    have hzl := denL_length (h5 E)
    have hzs : zv.cells.size = n := by rw [← hne, h3, ← hzl]; simp
    have mk : ∀ (E : Env) (ρ : Operand → Value), Rd E tm ρ o.op.operands.toList → ∃ xs', denL E l = some xs' ∧ Instr.fill (fun i => some (i * ie.size, ie.size)) ((Array.range (len * ie.size)).map (zv.cells[· % zv.cells.size]!)) (parts.map fun (i, x) => (i, ρ x)).toList = some xs'.toArray := by
      intro E ρ hR
      rw [hops] at hR
      have hrep := denL_rep (h5 E) len
      rw [rep_made zv.cells.toList len] at hrep
      obtain ⟨xs', e1, e2⟩ := build_sound (place' := fun i => some (i * ie.size, ie.size)) (fun i p hp => by rw [hne]; exact hp) hps hl hrep hR
      refine ⟨xs', e1, ?_⟩
      have heq : (Array.range (len * ie.size)).map (zv.cells[· % zv.cells.size]!) = (madeCells zv.cells.toList.toArray (len * zv.cells.toList.length)).toList.toArray := by
        apply Array.ext'; simp [madeCells, hzs, hne]
      rw [heq, Array.toList_map]
      exact e2
    have hoks : ∀ u ∈ l, okv (E.push none) u := by
      obtain ⟨ρ, hR⟩ := hO.rd o.op.operands.toList
      obtain ⟨xs', e1, _⟩ := mk E.fill ρ hR
      intro u hu
      obtain ⟨j, hj⟩ := List.getElem?_of_mem hu
      obtain ⟨y, g1, _⟩ := denL_get e1 hj
      exact okv.mono (E.le_push none) ⟨y, g1⟩
    refine new_out (hbo := hbo) (v := .slice (some ⟨.r st.n, 0⟩) len (.k len)) hS rfl rfl (list_okv hoks) (slice_okv hS (Nat.le_refl _)) h fun E'' w'' ρ _ hR hnn => ?_
    obtain ⟨xs', e1, e2⟩ := mk E'' ρ hR
    refine ⟨xs'.toArray, e, _, ?_, blkRel_list (denL_mono (E''.le_set (id := w''.heap.size) hnn) _ e1) (fun i y hy => by simpa using hy) (fun i hi => (by cases hi)), slice_den hnn (Nat.le_refl _)⟩
    have hrun := run_buildSliceAny (P := X.P) w'' t e len (parts.map fun (i, x) => (i, ρ x)) xs'.toArray ie zv hu hie h2 (by rw [hne]; exact hcond.1) (by rw [hne]; exact hcond.2) e2
    have hex : (execOp ρ o).run X.P w'' = ((Instr.buildSlice t len (parts.map fun (i, x) => (i, ρ x))) >>= fun v => pure (Next.value v) : Sem Next).run X.P w'' := by simp only [execOp, ho]
    rw [hex, Sem.run_bind, hrun]; rfl
  · cases hb
theorem mksl_out {bo : BOp} (hc : CxOK X K w0) (hS : StRel X K w0 E st w) (hO : Oks E tm) {t e : TypeId} {n : Nat} {z : List AV} {l c : Operand} {bl bc : BO} (hd : X.cx.und.get t = some (.slice e)) (hn : X.cx.size.get e = some n) (hz : X.cx.zero.get e = some z) (hl : cO l = some bl) (hcc : cO c = some bc) (hpos : 0 < n) (ho : o.op = .makeSlice t l c)
    (h : (xMksl n (lenL (uni z)) (uni z) st k (ev tm bl) (ev tm bc)).holds Θ E.va R) (hbo : ∀ n a, bo ≠ .load n a := by intro _ _ hh; cases hh) : MovOut X K w0 Θ R E o tm bo st w k := by
  obtain ⟨lv, hlv, h⟩ := vbind_inv h
  obtain ⟨cv, hcv, h⟩ := vbind_inv h
  obtain ⟨hcond, h⟩ := vif_inv h
  simp only [Bool.and_eq_true, ble_iff, decide_eq_true_eq] at hcond
  rw [natK_eq, newBlk_eq] at h
  obtain ⟨kl, e1, e2, _⟩ := natOf_inv hlv (hO.ev hl)
  obtain ⟨kc, e3, e4, _⟩ := natOf_inv hcv (hO.ev hcc)
  obtain ⟨ie, hie, hne⟩ := hc.size _ _ hn
  obtain ⟨it, zv, h1, h2, h3, h4, h5, _⟩ := hc.zero e z hz
  rw [hie] at h1; cases h1
  have hzl := denL_length (h5 E)
  have hzs : zv.cells.size = n := by rw [← hne, h3, ← hzl]; simp
  refine new_out (hbo := hbo) (v := .slice (some ⟨.r st.n, 0⟩) lv (.k cv)) hS rfl rfl (zero_okv h5) (slice_okv hS hcond.1) h fun E'' w'' ρ _ hR hnn => ?_
  have hL := hR.get (x := l) (by rw [ho]; simp [Op.operands]) hl
  have hC := hR.get (x := c) (by rw [ho]; simp [Op.operands]) hcc
  rw [e1] at hL
  rw [e3] at hC
  have hL := (den_int hL).2
  have hC := (den_int hC).2
  rw [e2] at hL
  rw [e4] at hC
  have hrun := run_make (P := X.P) w'' t e ie zv (hc.und t _ hd) hie h2 kl kc lv cv (by omega) (by omega) (by
    have : ie.bytes * cv ≤ 1048576 * 16777216 := Nat.mul_le_mul h4 hcond.2
    have : ((ie.bytes * cv : Nat) : Int) ≤ 281474976710656 := by omega
    simpa using this) (by omega)
  simp only [Int.toNat_natCast] at hrun
  refine ⟨madeCells zv.cells (cv * ie.size), e, _, by simp [execOp, ho, hL, hC, hrun], blkRel_zero h5 ?_ fun i hi => ?_, slice_den hnn hcond.1⟩
  · simp [madeCells, hne]
  · have hi : i < cv * n := hi
    rw [hne]
    simp only [madeCells, Array.getElem?_map]
    have hlt : i % zv.cells.size < zv.cells.size := Nat.mod_lt _ (by omega)
    rw [Array.getElem?_eq_getElem hlt]
    simp [hi, getElem!_pos, hlt]
theorem mkmap_out {bo : BOp} (hc : CxOK X K w0) (hS : StRel X K w0 E st w) {t : TypeId} {r : Option Operand} {d : TypeDesc} {p : TypeId × TypeId} (hd : X.cx.und.get t = some d) (hp : mapKE d = some p) (hr : hintOK r = true) {rb : Option BO} (hrb : cOo r = some rb) (ho : o.op = .makeMap t r)
    (h : (newO st (.map [] 0) fun r st => k (.map (some r)) st).holds Θ E.va R) (hbo : ∀ n a, bo ≠ .load n a := by intro _ _ hh; cases hh) : MovOut X K w0 Θ R E o tm bo st w k := by
  rw [newO_eq] at h
  refine ⟨.map (some st.n), st.obj (.map [] 0), E.push none, h, E.le_push none, hS.newObj _, hp_obj hS _, ⟨.map (some 0), ?_⟩, fun _ _ h => h, .push E, .of hbo, fun E'' st'' w'' ρ hE hH hS'' hR _ => ?_⟩
  · have : (E.push none).fill.m[st.n]? = some (some (0, 0)) := by rw [fill_get, blk_n hS]; rfl
    simp [AV.den, this]
  · have hlen : (E.push none).m.length = st.n + 1 := by simp [Env.push, hS.n_eq]
    obtain ⟨h1, h2, h3⟩ := hH st.n (by rw [hS.n_eq]; exact Nat.le_refl _) (by omega)
    refine ⟨E''.set st.n (w''.heap.size, 0), .map (some w''.heap.size), w''.alloc (.map #[] 0), Env.le_set h1, rfl, ?_, hS''.fill h1 _ (fun b' hb' => ?_) (fun o' ho' => ?_), ?_, fun j hj hn => ?_⟩
    · have hk : ∃ a b, d = .map a b := by cases d <;> first | (cases hp; done) | exact ⟨_, _, rfl⟩
      obtain ⟨a, b, rfl⟩ := hk
      have hu := hc.und t _ hd
      cases r with
      | none => simp [execOp, ho, Instr.makeMap]
      | some x =>
        have : ∃ kd n, x = .const (.int kd n) := by
          cases x <;> simp only [hintOK] at hr <;> try (cases hr; done)
          rename_i v
          cases v <;> simp at hr
          exact ⟨_, _, rfl⟩
        obtain ⟨kd, n, rfl⟩ := this
        have hv : ρ (.const (.int kd n)) = .int kd n := by
          obtain ⟨c, hc1, _⟩ := obind_inv hrb
          obtain ⟨v, hv, hc2⟩ := obind_inv hc1
          cases hc2
          have h0 := hR.get (x := .const (.int kd n)) (by rw [ho]; simp [Op.operands]) hc1
          have h2 := den_ofVal (E := E'') hv
          have h3 : (ev tm (.c v)).den E'' = some (.int kd n) := h2
          rw [h3] at h0; exact (Option.some.inj h0).symm
        simp [execOp, ho, Instr.makeMap, run_underlying hu, hv, asInt, asIntOf]
    · rw [h2] at hb'
      have : st.heap.get st.n = some b' := hb'
      exact absurd (hS.lt _ _ this).1 (Nat.lt_irrefl _)
    · rw [h3] at ho'
      have : (st.x.objs.set st.n (some (.map [] 0))).get st.n = some o' := ho'
      rw [Tr.get_set_same] at this
      cases this
      exact ⟨rfl, trivial⟩
    · simp [AV.den, set_new h1]
    · rw [set_other]; exact hn
      rw [hlen, hS.n_eq] at hj; omega
end
end Go.Sy
