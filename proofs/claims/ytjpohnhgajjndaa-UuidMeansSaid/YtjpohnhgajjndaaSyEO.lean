import Derived.Test.YtjpohnhgajjndaaSyEN
/-! Entries, iterators. -/
namespace Go.Sy
section
variable {X : Tabs} {K : Nat → Prop} {w0 : World} {E : Env} {st : St} {w : World} {Θ : Pred} {R : List Back} {tm : Tm} {k : Kt} {o : Oper}

theorem den_nat64 {n : Nat} (h : n < 9223372036854775808) : (AV.int .i64 n).den E = some (goInt (n : Int)) := den_i64 h
theorem mclear_out (hc : CxOK X K w0) (hS : StRel X K w0 E st w) {args : Array Operand} {tys : Array TypeId} {bs : List BO} {t kt el : TypeId} {bm : BO} (ho : o.op = .call ⟨.builtin .clear, args, tys⟩) (hb : cOs args.toList = some bs) (ht : getL 0 tys.toList = some t) (hm : getL 0 bs = some bm)
    (hd : X.cx.und.get t = some (.map kt el)) (h : (xMclear st k (ev tm bm)).holds Θ E.va R) : EffOut X K w0 Θ R E o tm st w k := by
  intro ρ hR
  have hu := hc.und t _ hd
  obtain ⟨ym, h1, ym2⟩ := barg ho hb hR hm
  have ht' := tys_get ht
  have go : ∀ w', (Builtin.clear_ tys o.type (args.map ρ)).run X.P w = .ok (.tuple #[]) w' → (execOp ρ o).run X.P w = .ok (.value (.tuple #[])) w' := by
    intro w' hw
    simp [execOp, ho, resolve, invoke, Go.builtin, hw]
  unfold xMclear at h
  split at h
  · rename_i hev
    rw [hev] at h1
    rcases den_map h1 with ⟨_, e⟩ | ⟨_, _, e, _⟩
    · subst e
      rw [go w (by simp [Builtin.clear_, ht', ym2, run_underlying hu])]
      exact .now h hS rfl
    · cases e
  · rename_i r hev
    obtain ⟨mm, hmm, h⟩ := vbind_inv h
    rw [hev] at h1
    rcases den_map h1 with ⟨e, _⟩ | ⟨j, id, e, hid, e0⟩
    · cases e
    · cases e
      subst e0
      have hobj := mapOf_inv hmm
      obtain ⟨ms, hh, hrel⟩ := map_at hS hobj hid
      rw [withO_eq] at h
      rw [go _ (by simp [Builtin.clear_, ht', ym2, run_underlying hu, run_getMap hh, run_setMap _ hh]; rfl)]
      exact .setO hS h hobj hid hh ⟨rfl, hrel⟩ ⟨rfl, trivial⟩ rfl
  · exact h.elim
theorem mlen_out (hc : CxOK X K w0) (hS : StRel X K w0 E st w) {args : Array Operand} {tys : Array TypeId} {bs : List BO} {t kt el : TypeId} {bm : BO} (ho : o.op = .call ⟨.builtin .len, args, tys⟩) (hb : cOs args.toList = some bs) (ht : getL 0 tys.toList = some t) (hm : getL 0 bs = some bm)
    (hd : X.cx.und.get t = some (.map kt el)) (h : (xMlen st k (ev tm bm)).holds Θ E.va R) : EffOut X K w0 Θ R E o tm st w k := by
  intro ρ hR
  have hu := hc.und t _ hd
  obtain ⟨ym, h1, ym2⟩ := barg ho hb hR hm
  have ht' := tys_get ht
  have go : ∀ n : Int, (Builtin.len_ tys o.type (args.map ρ)).run X.P w = .ok (goInt n) w → (execOp ρ o).run X.P w = .ok (.value (goInt n)) w := by
    intro n hw
    simp [execOp, ho, resolve, invoke, Go.builtin, hw]
  unfold xMlen at h
  split at h
  · rename_i hev
    rw [hev] at h1
    rcases den_map h1 with ⟨_, e⟩ | ⟨_, _, e, _⟩
    · subst e
      rw [go 0 (by simp [Builtin.len_, ht', ym2, run_underlying hu])]
      exact .now h hS (den_i64 (by decide))
    · cases e
  · rename_i r hev
    obtain ⟨mm, hmm, h⟩ := vbind_inv h
    rw [natK_eq] at h
    obtain ⟨h3, h⟩ := lenK_inv h
    rw [hev] at h1
    rcases den_map h1 with ⟨e, _⟩ | ⟨j, id, e, hid, e0⟩
    · cases e
    · cases e
      subst e0
      obtain ⟨ms, hh, hrel⟩ := map_at hS (mapOf_inv hmm) hid
      have hl := hrel.length
      rw [Array.length_toList] at hl
      rw [lenL_eq, hl] at h3 h
      rw [go ms.size (by simp [Builtin.len_, ht', ym2, run_underlying hu, run_getMap hh])]
      exact .now h hS (den_i64 h3)
  · exact h.elim

theorem mentry_run {P : Program} {t kt el : TypeId} {d : TypeDesc} (hu : P.underlying t = some (.map kt el)) (huk : P.underlying kt = some d) (hkk : keyKind d = true) {zv : Value} (hz : ∀ w, (zeroValue el).run P w = .ok zv w) {id c : Nat} {ms : Array MapEntry} (hh : w.heap[id]? = some (.map ms c)) {key : Value} {r : Option (Nat × Value)} (hf : Instr.findNow d key ms.toList 0 = some r) :
    (r = none → (Instr.mapEntry t (.map (some id)) key).run P w = .ok (.tuple #[zv, goInt c]) (w.putObj id (.map (ms.push { key, val := zv, born := c }) (c + 1)))) ∧
    (∀ i x mt, r = some (i, x) → ms.toList[i]? = some mt → Instr.sameBits 10000 mt.key key = true → (Instr.mapEntry t (.map (some id)) key).run P w = .ok (.tuple #[x, goInt mt.born]) (w.putObj id (.map (ms.modify i fun e => { e with key }) c))) := by
  have hf := run_findKey (P := P) huk hf w
  refine ⟨fun e => ?_, fun i x mt e hi hs => ?_⟩
  · subst e
    simp [Instr.mapEntry, run_underlying hu, run_getMap hh, run_checkKey huk hkk, hf, hz, run_setMap _ hh]
  · subst e
    have hi' : ms[i]? = some mt := by simpa using hi
    simp [Instr.mapEntry, run_underlying hu, run_getMap hh, run_checkKey huk hkk, hf, hi', run_keyStays hs, run_setMap _ hh]
theorem mentry_out (hc : CxOK X K w0) (hS : StRel X K w0 E st w) {t : TypeId} {m kk : Operand} {p : TypeDesc × TypeId} {z : AV} {bm bk : BO} (hp : keyD X.cx.und t = some p) (hz : zeroV X.cx.und X.cx.size X.cx.zero p.2 = some z) (hm : cO m = some bm) (hk : cO kk = some bk) (ho : o.op = .mapEntry t m kk)
    (h : (xMentry p.1 z (ev tm bk) st k (ev tm bm)).holds Θ E.va R) : EffOut X K w0 Θ R E o tm st w k := by
  intro ρ hR
  obtain ⟨kt, hu, huk, hkk⟩ := keyD_inv hc hp
  have h1 := hR.get (x := m) (by rw [ho]; simp [Op.operands]) hm
  have h2 := hR.get (x := kk) (by rw [ho]; simp [Op.operands]) hk
  obtain ⟨zv, hzd, hzr⟩ := zeroV_sound hc hz
  have go : ∀ v w', (Instr.mapEntry t (ρ m) (ρ kk)).run X.P w = .ok v w' → (execOp ρ o).run X.P w = .ok (.value v) w' := by
    intro v w' hw
    simp [execOp, ho, hw]
  unfold xMentry at h
  split at h
  · rename_i r hev
    obtain ⟨_, h⟩ := vif_inv h
    obtain ⟨mm, hmm, h⟩ := vbind_inv h
    obtain ⟨res, hres, h⟩ := vbind_inv h
    rw [hev] at h1
    rcases den_map h1 with ⟨e, _⟩ | ⟨j, id, e, hid, e0⟩
    · cases e
    · cases e
      have hobj := mapOf_inv hmm
      obtain ⟨ms, hh, hrel⟩ := map_at hS hobj hid
      obtain ⟨r', g1, g2⟩ := findM_sound h2 hrel hres
      obtain ⟨f1, f2⟩ := mentry_run (P := X.P) (w := w) hu huk hkk hzr hh g1
      rw [e0] at go
      rcases g2 with ⟨e1, e2⟩ | ⟨j, e, mt, q1, q2, q3, q4, q5, q6⟩
      · subst e1 e2
        simp only [entR] at h
        obtain ⟨h3, h⟩ := vif_inv h
        rw [blt_iff, decide_eq_true_eq] at h3
        rw [natK_eq, withO_eq] at h
        rw [go _ _ (f1 rfl)]
        exact .setO hS h hobj hid hh ⟨rfl, hrel⟩ ⟨rfl, by rw [Array.toList_push]; exact hrel.push ⟨h2, hzd E, rfl⟩⟩ (den_tuple_of (denL_cons.2 ⟨_, _, hzd E, denL_cons.2 ⟨_, _, den_i64 h3, rfl, rfl⟩, rfl⟩))
      · subst q1 q5
        simp only [entR] at h
        obtain ⟨h3, h⟩ := vif_inv h
        rw [blt_iff, decide_eq_true_eq] at h3
        rw [withO_eq] at h
        rw [go _ _ (f2 _ _ mt rfl (by simpa using q3) (q6 _))]
        refine .setO hS h hobj hid hh ⟨rfl, hrel⟩ ⟨rfl, ?_⟩ (den_tuple_of (denL_cons.2 ⟨_, _, q4.2.1, denL_cons.2 ⟨_, _, by rw [← q4.2.2]; exact den_i64 h3, rfl, rfl⟩, rfl⟩))
        rw [modify_set _ (by simpa using q3), setL_eq]
        exact hrel.set _ ⟨h2, q4.2.1, q4.2.2⟩
  · exact h.elim

theorem bornAt_sound {n : Nat} : ∀ {es : List (AV × AV × Nat)} {ms : List MapEntry} {i : Nat} {p : Nat × AV × AV × Nat}, EntsRel E es ms → bornAt n es i = some p →
    ∃ j m, p.1 = i + j ∧ es[j]? = some p.2 ∧ ms[j]? = some m ∧ EntRel E p.2 m ∧ m.born = n ∧ ∀ k m', k < j → ms[k]? = some m' → m'.born ≠ n
  | [], [], i, p, _, h => by cases h
  | e :: es, m :: ms, i, p, ⟨h1, h2⟩, h => by
    change bif_ (Nat.beq e.2.2 n) (some (i, e)) (bornAt n es (Nat.succ i)) = some p at h
    rw [beq_iff] at h
    by_cases c : e.2.2 = n
    · rw [decide_eq_true c] at h
      cases h
      exact ⟨0, m, rfl, rfl, rfl, h1, by rw [← h1.2.2]; exact c, fun k m' hk => absurd hk (Nat.not_lt_zero _)⟩
    · rw [decide_eq_false c] at h
      obtain ⟨j, m', g1, g2, g3, g4, g5, g6⟩ := bornAt_sound h2 h
      refine ⟨j + 1, m', by rw [g1]; omega, by simpa using g2, by simpa using g3, g4, g5, fun k m'' hk hm => ?_⟩
      cases k with
      | zero => simp at hm; subst hm; rw [← h1.2.2]; exact c
      | succ k => exact g6 k m'' (by omega) (by simpa using hm)
  | [], _ :: _, _, _, h, _ => h.elim
  | _ :: _, [], _, _, h, _ => h.elim
theorem findIdx_born {ms : Array MapEntry} {n j : Nat} {m : MapEntry} (h : ms.toList[j]? = some m) (hb : m.born = n) (hno : ∀ k m', k < j → ms.toList[k]? = some m' → m'.born ≠ n) : ms.findIdx? (fun e => (e.born : Int) == (n : Int)) = some j := by
  rw [Array.findIdx?_eq_some_iff_getElem]
  have hj := (List.getElem?_eq_some_iff.1 h)
  obtain ⟨hj1, hj2⟩ := hj
  rw [Array.length_toList] at hj1
  refine ⟨hj1, ?_, fun k hk => ?_⟩
  · have : ms[j] = m := by simpa using hj2
    simp [this, hb]
  · have := hno k (ms[k]) hk (by simp [Nat.lt_trans hk hj1])
    have : ¬ ((ms[k].born : Int) = (n : Int)) := by omega
    simpa using this
theorem mstore_out (hS : StRel X K w0 E st w) (hO : Oks E tm) {t : TypeId} {m s v : Operand} {bm bs bv : BO} (hm : cO m = some bm) (hs : cO s = some bs) (hv : cO v = some bv) (ho : o.op = .entryStore t m s v)
    (h : (xMstore (ev tm bs) (ev tm bv) st k (ev tm bm)).holds Θ E.va R) : EffOut X K w0 Θ R E o tm st w k := by
  intro ρ hR
  have h1 := hR.get (x := m) (by rw [ho]; simp [Op.operands]) hm
  have h2 := hR.get (x := s) (by rw [ho]; simp [Op.operands]) hs
  have h3 := hR.get (x := v) (by rw [ho]; simp [Op.operands]) hv
  unfold xMstore at h
  split at h
  · rename_i r hev
    obtain ⟨n, hn, h⟩ := vbind_inv h
    obtain ⟨mm, hmm, h⟩ := vbind_inv h
    obtain ⟨p, hp, h⟩ := vbind_inv h
    rw [withO_eq] at h
    obtain ⟨kd, e1, e2, _⟩ := natOf_inv hn (hO.ev hs)
    rw [e1] at h2
    have h2 := (den_int h2).2
    rw [e2] at h2
    rw [hev] at h1
    rcases den_map h1 with ⟨e, _⟩ | ⟨j, id, e, hid, e0⟩
    · cases e
    · cases e
      have hobj := mapOf_inv hmm
      obtain ⟨ms, hh, hrel⟩ := map_at hS hobj hid
      obtain ⟨j, mt, g1, g2, g3, g4, g5, g6⟩ := bornAt_sound hrel hp
      have hidx := findIdx_born g3 g5 g6
      have hrun : (execOp ρ o).run X.P w = .ok .skip (w.putObj id (.map (ms.modify j fun e => { e with val := ρ v }) mm.2)) := by
        simp [execOp, ho, e0, h2, Instr.entryStore, run_getMap hh, asInt, asIntOf, hidx, run_setMap _ hh]
      rw [hrun]
      refine .setO hS h hobj hid hh ⟨rfl, hrel⟩ ⟨rfl, ?_⟩ rfl
      rw [modify_set _ g3, setL_eq, g1, Nat.zero_add]
      exact hrel.set _ ⟨g4.1, h3, g4.2.2⟩
  · exact h.elim
end
end Go.Sy
