import Derived.Test.YtjpohnhgajjndaaSyEM
/-! Operations on maps. -/
namespace Go.Sy
section
variable {X : Tabs} {K : Nat → Prop} {w0 : World} {E : Env} {st : St} {w : World} {Θ : Pred} {R : List Back} {tm : Tm} {k : Kt} {o : Oper}

theorem den_map {r : Option Nat} {y : Value} (h : (AV.map r).den E = some y) : (r = none ∧ y = .map none) ∨ ∃ j id, r = some j ∧ E.m[j]? = some (some (id, 0)) ∧ y = .map (some id) := den_map' h
theorem Out.setO {v : AV} {y : Value} {r id : Nat} {o o' : Ob} {ob ob' : Obj} (hS : StRel X K w0 E st w) (h : (k v (st.setO r o')).holds Θ E.va R) (hr : st.x.objs.get r = some o) (hm : E.m[r]? = some (some (id, 0))) (hh : w.heap[id]? = some ob) (hob : ObRel X E o ob) (ho : ObRel X E o' ob') (hv : v.den E = some y) :
    Out X K w0 Θ R E st k y (w.putObj id ob') := by
  obtain ⟨g1, g2⟩ := hS.putObj hr hm hh hob ho
  exact ⟨v, _, E, R, List.prefix_rfl, h, .refl E, g1, g2, hv⟩
theorem modify_set {α : Type} (f : α → α) {l : Array α} {i : Nat} {x : α} (h : l.toList[i]? = some x) : (l.modify i f).toList = l.toList.set i (f x) := by
  rw [Array.toList_modify]
  apply List.ext_getElem?
  intro j
  rw [List.getElem?_modify, List.getElem?_set]
  by_cases e : i = j
  · subst e
    have := (List.getElem?_eq_some_iff.1 h).1
    rw [Array.length_toList] at this
    have h2 : l[i] = x := by simpa using (List.getElem?_eq_some_iff.1 h).2
    simp [this, h2]
  · simp [e]

theorem putObj_self {r : Nat} {ob : Obj} (h : w.heap[r]? = some ob) : w.putObj r ob = w := by
  have : w.heap.setIfInBounds r ob = w.heap := by
    apply Array.ext_getElem?
    intro i
    rw [Array.getElem?_setIfInBounds]
    split
    · rename_i e; subst e; rw [h]; simp [(Array.getElem?_eq_some_iff.1 h).1]
    · rfl
  unfold World.putObj
  rw [this]
theorem erase_toList {α : Type} (l : Array α) (i : Nat) : (l.eraseIdxIfInBounds i).toList = l.toList.eraseIdx i := by
  unfold Array.eraseIdxIfInBounds
  split
  · rw [Array.toList_eraseIdx]
  · rw [List.eraseIdx_of_length_le (by rw [Array.length_toList]; omega)]
theorem mlook_out (hc : CxOK X K w0) (hS : StRel X K w0 E st w) {t : TypeId} {m kk : Operand} {ok : Bool} {p : TypeDesc × TypeId} {z : AV} {bm bk : BO} (hp : keyD X.cx.und t = some p) (hz : zeroV X.cx.und X.cx.size X.cx.zero p.2 = some z) (hm : cO m = some bm) (hk : cO kk = some bk) (ho : o.op = .lookup t m kk ok)
    (h : (xMlook p.1 z ok (ev tm bk) st k (ev tm bm)).holds Θ E.va R) : EffOut X K w0 Θ R E o tm st w k := by
  intro ρ hR
  obtain ⟨kt, hu, huk, hkk⟩ := keyD_inv hc hp
  have h1 := hR.get (x := m) (by rw [ho]; simp [Op.operands]) hm
  have h2 := hR.get (x := kk) (by rw [ho]; simp [Op.operands]) hk
  obtain ⟨zv, hzd, hzr⟩ := zeroV_sound hc hz
  have fin : ∀ (r : Option (Nat × AV × Nat)) (v : Value), (lookR z ok st k r).holds Θ E.va R → (∀ q, r = some q → q.2.1.den E = some v) → (r = none → v = zv) → (∀ b, r.isSome = b → (execOp ρ o).run X.P w = .ok (.value (if ok then .tuple #[v, .bool b] else v)) w) → OpRes X.P (Out X K w0 Θ R E st k) ((execOp ρ o).run X.P w) := by
    intro r v h hq hn hrun
    cases r with
    | none =>
      rw [hrun false rfl]
      have := hn rfl; subst this
      cases ok with
      | false => exact .now h hS (hzd E)
      | true => exact .now h hS (den_tuple_of (denL_cons.2 ⟨_, _, hzd E, denL_cons.2 ⟨_, _, rfl, rfl, rfl⟩, rfl⟩))
    | some q =>
      rw [hrun true rfl]
      have := hq q rfl
      cases ok with
      | false => exact .now h hS this
      | true => exact .now h hS (den_tuple_of (denL_cons.2 ⟨_, _, this, denL_cons.2 ⟨_, _, rfl, rfl, rfl⟩, rfl⟩))
  unfold xMlook at h
  split at h
  · rename_i hev
    obtain ⟨_, h⟩ := vif_inv h
    rw [hev] at h1
    rcases den_map h1 with ⟨_, e⟩ | ⟨_, _, e, _⟩
    · refine fin none zv h (fun q e => by cases e) (fun _ => rfl) fun b hb => ?_
      subst hb
      have hf : (Instr.findKey kt (ρ kk) []).run X.P w = .ok none w := run_findKey huk (by rfl) w
      cases ok <;> simp [execOp, ho, e, Instr.lookup, run_underlying hu, run_checkKey huk hkk, hf, hzr]
    · cases e
  · rename_i r hev
    obtain ⟨_, h⟩ := vif_inv h
    obtain ⟨mm, hmm, h⟩ := vbind_inv h
    obtain ⟨res, hres, h⟩ := vbind_inv h
    rw [hev] at h1
    rcases den_map h1 with ⟨e, _⟩ | ⟨j, id, e, hid, e0⟩
    · cases e
    · cases e
      obtain ⟨ms, hh, hrel⟩ := map_at hS (mapOf_inv hmm) hid
      obtain ⟨r', g1, g2⟩ := findM_sound h2 hrel hres
      have hf := run_findKey (P := X.P) huk g1 w
      have base : ∀ v, (∀ w', ((match r' with | some (_, v) => pure (v, true) | none => (fun z => (z, false)) <$> zeroValue p.2 : Sem (Value × Bool))).run X.P w' = .ok (v, res.isSome) w') → (execOp ρ o).run X.P w = .ok (.value (if ok then .tuple #[v, .bool res.isSome] else v)) w := by
        intro v hv
        have hv := hv w
        cases r' with
        | none =>
          simp only [Sem.run_map] at hv
          cases ok <;> simp [execOp, ho, e0, Instr.lookup, run_underlying hu, run_getMap hh, run_checkKey huk hkk, hf]
          all_goals (rw [hzr] at hv ⊢; simp at hv; simp [hv])
        | some q =>
          simp at hv
          cases ok <;> simp [execOp, ho, e0, Instr.lookup, run_underlying hu, run_getMap hh, run_checkKey huk hkk, hf, hv]
      rcases g2 with ⟨e1, e2⟩ | ⟨j, e, mt, q1, q2, q3, q4, q5, _⟩
      · subst e1 e2
        refine fin none zv h (fun q e => by cases e) (fun _ => rfl) fun b hb => ?_
        subst hb
        exact base zv fun w' => by simp [hzr]
      · subst q1 q5
        refine fin _ mt.val h (fun q e' => by cases e'; exact q4.2.1) (fun e => by cases e) fun b hb => ?_
        subst hb
        exact base mt.val fun w' => by simp
  · exact h.elim

theorem mput_run {P : Program} {t kt el : TypeId} {d : TypeDesc} (hu : P.underlying t = some (.map kt el)) (huk : P.underlying kt = some d) (hkk : keyKind d = true) {id c : Nat} {ms : Array MapEntry} (hh : w.heap[id]? = some (.map ms c)) {key v : Value} {r : Option (Nat × Value)} (hf : Instr.findNow d key ms.toList 0 = some r) :
    (r = none → (Instr.mapUpdate t (.map (some id)) key v).run P w = .ok () (w.putObj id (.map (ms.push { key, val := v, born := c }) (c + 1)))) ∧
    (∀ i x mt, r = some (i, x) → ms.toList[i]? = some mt → Instr.sameBits 10000 mt.key key = true → (Instr.mapUpdate t (.map (some id)) key v).run P w = .ok () (w.putObj id (.map (ms.modify i fun e => { e with key, val := v }) c))) := by
  have hf := run_findKey (P := P) huk hf w
  refine ⟨fun e => ?_, fun i x mt e hi hs => ?_⟩
  · subst e
    simp [Instr.mapUpdate, run_underlying hu, run_getMap hh, run_checkKey huk hkk, hf, run_setMap _ hh]
  · subst e
    have hi' : ms[i]? = some mt := by simpa using hi
    simp [Instr.mapUpdate, run_underlying hu, run_getMap hh, run_checkKey huk hkk, hf, hi', run_keyStays hs, run_setMap _ hh]
theorem mput_out (hc : CxOK X K w0) (hS : StRel X K w0 E st w) {t : TypeId} {m kk v : Operand} {p : TypeDesc × TypeId} {bm bk bv : BO} (hp : keyD X.cx.und t = some p) (hm : cO m = some bm) (hk : cO kk = some bk) (hv : cO v = some bv) (ho : o.op = .mapUpdate t m kk v ∨ o.op = .insert t m kk v)
    (h : (xMput p.1 (ev tm bk) (ev tm bv) st k (ev tm bm)).holds Θ E.va R) : EffOut X K w0 Θ R E o tm st w k := by
  intro ρ hR
  obtain ⟨kt, hu, huk, hkk⟩ := keyD_inv hc hp
  have h1 := hR.get (x := m) (by rcases ho with ho | ho <;> (rw [ho]; simp [Op.operands])) hm
  have h2 := hR.get (x := kk) (by rcases ho with ho | ho <;> (rw [ho]; simp [Op.operands])) hk
  have h3 := hR.get (x := v) (by rcases ho with ho | ho <;> (rw [ho]; simp [Op.operands])) hv
  have go : ∀ w', (Instr.mapUpdate t (ρ m) (ρ kk) (ρ v)).run X.P w = .ok () w' → (execOp ρ o).run X.P w = .ok .skip w' := by
    intro w' hw
    rcases ho with ho | ho <;> simp [execOp, ho, hw]
  unfold xMput at h
  split at h
  · rename_i r hev
    obtain ⟨_, h⟩ := vif_inv h
    obtain ⟨mm, hmm, h⟩ := vbind_inv h
    obtain ⟨res, hres, h⟩ := vbind_inv h
    rw [hev] at h1
    rcases den_map h1 with ⟨e, _⟩ | ⟨j, id, e, hid, e0⟩
    · cases e
    · cases e
      have hobj := mapOf_inv hmm
      obtain ⟨ms, hh, hrel⟩ := map_at hS hobj hid
      obtain ⟨r', g1, g2⟩ := findM_sound h2 hrel hres
      obtain ⟨f1, f2⟩ := mput_run (P := X.P) (w := w) hu huk hkk hh (v := ρ v) g1
      rw [e0] at go
      rcases g2 with ⟨e1, e2⟩ | ⟨j, e, mt, q1, q2, q3, q4, q5, q6⟩
      · subst e1 e2
        simp only [putR] at h
        rw [natK_eq, withO_eq] at h
        rw [go _ (f1 rfl)]
        exact .setO hS h hobj hid hh ⟨rfl, hrel⟩ ⟨rfl, by rw [Array.toList_push]; exact hrel.push ⟨h2, h3, rfl⟩⟩ rfl
      · subst q1 q5
        change VC.holds Θ (withO _ _ _ _) E.va R at h
        rw [withO_eq] at h
        rw [go _ (f2 _ _ mt rfl (by simpa using q3) (q6 _))]
        refine .setO hS h hobj hid hh ⟨rfl, hrel⟩ ⟨rfl, ?_⟩ rfl
        rw [modify_set _ (by simpa using q3), setL_eq]
        exact hrel.set _ ⟨h2, h3, q4.2.2⟩
  · exact h.elim

theorem mdel_out (hc : CxOK X K w0) (hS : StRel X K w0 E st w) {args : Array Operand} {tys : Array TypeId} {bs : List BO} {t : TypeId} {p : TypeDesc × TypeId} {bm bk : BO} (ho : o.op = .call ⟨.builtin .delete, args, tys⟩) (hb : cOs args.toList = some bs) (ht : getL 0 tys.toList = some t) (hm : getL 0 bs = some bm) (hk : getL 1 bs = some bk)
    (hp : keyD X.cx.und t = some p) (h : (xMdel p.1 (ev tm bk) st k (ev tm bm)).holds Θ E.va R) : EffOut X K w0 Θ R E o tm st w k := by
  intro ρ hR
  obtain ⟨kt, hu, huk, hkk⟩ := keyD_inv hc hp
  obtain ⟨ym, h1, ym2⟩ := barg ho hb hR hm
  obtain ⟨yk, h2, yk2⟩ := barg ho hb hR hk
  have ht' := tys_get ht
  have go : ∀ w', (Builtin.delete_ tys o.type (args.map ρ)).run X.P w = .ok (.tuple #[]) w' → (execOp ρ o).run X.P w = .ok (.value (.tuple #[])) w' := by
    intro w' hw
    simp [execOp, ho, resolve, invoke, Go.builtin, hw]
  unfold xMdel at h
  split at h
  · rename_i hev
    obtain ⟨_, h⟩ := vif_inv h
    rw [hev] at h1
    rcases den_map h1 with ⟨_, e⟩ | ⟨_, _, e, _⟩
    · subst e
      rw [go w (by simp [Builtin.delete_, ht', ym2, yk2, run_underlying hu, run_checkKey huk hkk])]
      exact .now h hS rfl
    · cases e
  · rename_i r hev
    obtain ⟨_, h⟩ := vif_inv h
    obtain ⟨mm, hmm, h⟩ := vbind_inv h
    obtain ⟨res, hres, h⟩ := vbind_inv h
    rw [hev] at h1
    rcases den_map h1 with ⟨e, _⟩ | ⟨j, id, e, hid, e0⟩
    · cases e
    · cases e
      subst e0
      have hobj := mapOf_inv hmm
      obtain ⟨ms, hh, hrel⟩ := map_at hS hobj hid
      obtain ⟨r', g1, g2⟩ := findM_sound h2 hrel hres
      have hf := run_findKey (P := X.P) huk g1 w
      rcases g2 with ⟨e1, e2⟩ | ⟨j, e, mt, q1, q2, q3, q4, q5, q6⟩
      · subst e1 e2
        rw [go _ (by simp [Builtin.delete_, ht', ym2, yk2, run_underlying hu, run_getMap hh, run_checkKey huk hkk, hf, run_setMap _ hh]; rfl)]
        have h : (k (.tuple []) st).holds Θ E.va R := h
        rw [putObj_self hh]
        exact .now h hS rfl
      · subst q1 q5
        change VC.holds Θ (withO _ _ _ _) E.va R at h
        rw [withO_eq] at h
        rw [go _ (by simp [Builtin.delete_, ht', ym2, yk2, run_underlying hu, run_getMap hh, run_checkKey huk hkk, hf, run_setMap _ hh]; rfl)]
        refine .setO hS h hobj hid hh ⟨rfl, hrel⟩ ⟨rfl, ?_⟩ rfl
        rw [delAt_eq, erase_toList]
        simpa using hrel.erase j
  · exact h.elim
end
end Go.Sy
