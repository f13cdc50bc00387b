import Derived.Test.YtjpohnhgajjndaaSyEO
/-! Iterators. -/
namespace Go.Sy
section
variable {X : Tabs} {K : Nat → Prop} {w0 : World} {E : Env} {st : St} {w : World} {Θ : Pred} {R : List Back} {tm : Tm} {k : Kt} {o : Oper}

theorem Out.newO {v : AV} {y : Value} {ob' : Obj} {o' : Ob} (hS : StRel X K w0 E st w) (h : (k v (st.obj o')).holds Θ E.va R) (ho : ObRel X ((E.push none).set st.n (w.heap.size, 0)) o' ob') (hv : v.den ((E.push none).set st.n (w.heap.size, 0)) = some y) :
    Out X K w0 Θ R E st k y (w.alloc ob') := by
  obtain ⟨g1, g2, g3, g4⟩ := hS.newObjAt o' ob' ho
  exact ⟨v, _, (E.push none).set st.n (w.heap.size, 0), R, List.prefix_rfl, h, g3, g1, g2, hv⟩
theorem newptr_den (hS : StRel X K w0 E st w) : (AV.ptr (some ⟨.r st.n, 0⟩)).den ((E.push none).set st.n (w.heap.size, 0)) = some (.pointer (some ⟨w.heap.size, 0, none⟩)) :=
  ptr_den (by rw [← hS.n_eq]; exact push_new E none)
theorem rngM_out (hc : CxOK X K w0) (hS : StRel X K w0 E st w) {t kt el : TypeId} {x : Operand} {b : BO} (hb : cO x = some b) (hd : X.cx.und.get t = some (.map kt el)) (ho : o.op = .range t x)
    (h : (xRngM st k (ev tm b)).holds Θ E.va R) : EffOut X K w0 Θ R E o tm st w k := by
  intro ρ hR
  have hu := hc.und t _ hd
  have h1 := hR.get (x := x) (by rw [ho]; simp [Op.operands]) hb
  unfold xRngM at h
  split at h
  · rename_i hev
    rw [hev] at h1
    rw [newO_eq] at h
    rcases den_map h1 with ⟨_, e⟩ | ⟨_, _, e, _⟩
    · have hrun : (execOp ρ o).run X.P w = .ok (.value (.pointer (some ⟨w.heap.size, 0, none⟩))) (w.alloc (.mapIter none 0 #[] 0)) := by
        simp [execOp, ho, e, Instr.range, run_underlying hu]
      rw [hrun]
      exact .newO hS h ⟨trivial, rfl, rfl, rfl⟩ (newptr_den hS)
    · cases e
  · rename_i r hev
    obtain ⟨mm, hmm, h⟩ := vbind_inv h
    rw [hev] at h1
    rw [newO_eq] at h
    rcases den_map h1 with ⟨e, _⟩ | ⟨j, id, e, hid, e0⟩
    · cases e
    · cases e
      obtain ⟨ms, hh, hrel⟩ := map_at hS (mapOf_inv hmm) hid
      have hrun : (execOp ρ o).run X.P w = .ok (.value (.pointer (some ⟨w.heap.size, 0, none⟩))) (w.alloc (.mapIter (some id) mm.2 #[] mm.2)) := by
        simp [execOp, ho, e0, Instr.range, run_underlying hu, run_getMap hh]
      rw [hrun]
      have hle : E.Le ((E.push none).set st.n (w.heap.size, 0)) := (E.le_push none).trans (Env.le_set (by rw [← hS.n_eq]; exact push_new E none))
      exact .newO hS h ⟨hle.m _ _ hid, rfl, rfl, rfl⟩ (newptr_den hS)
  · exact h.elim
theorem rngT_out (hc : CxOK X K w0) (hS : StRel X K w0 E st w) {t : TypeId} {x : Operand} {b : BO} (hb : cO x = some b) (hd : X.cx.und.get t = some .string) (ho : o.op = .range t x)
    (h : (xRngT st k (ev tm b)).holds Θ E.va R) : EffOut X K w0 Θ R E o tm st w k := by
  intro ρ hR
  have hu := hc.und t _ hd
  have h1 := hR.get (x := x) (by rw [ho]; simp [Op.operands]) hb
  unfold xRngT at h
  split at h
  · rename_i n s hev
    rw [hev] at h1
    rw [newO_eq] at h
    obtain ⟨g1, g2, e⟩ := den_str h1
    have hrun : (execOp ρ o).run X.P w = .ok (.value (.pointer (some ⟨w.heap.size, 0, none⟩))) (w.alloc (.stringIter (bytesOf s) 0)) := by
      simp [execOp, ho, e, Instr.range, run_underlying hu]
    rw [hrun]
    exact .newO hS h ⟨g1, g2, rfl, rfl⟩ (newptr_den hS)
  · exact h.elim
theorem itOf_inv {v : AV} {r : Nat} (h : itOf v = some r) : v = .ptr (some ⟨.r r, 0⟩) := by
  unfold itOf at h
  split at h
  · cases h; rfl
  · cases h
theorem it_den {r : Nat} {y : Value} (h : (AV.ptr (some ⟨.r r, 0⟩)).den E = some y) : ∃ p, E.m[r]? = some (some p) ∧ y = .pointer (some ⟨p.1, 0 + p.2, none⟩) := by
  obtain ⟨ad, h1, h2⟩ := den_ptr h
  obtain ⟨p, h3, rfl⟩ := aden_r h1
  exact ⟨p, h3, h2⟩
theorem obj_any (hS : StRel X K w0 E st w) {r : Nat} {o : Ob} (h : st.x.objs.get r = some o) {p : Nat × Nat} (hm : E.m[r]? = some (some p)) : p.2 = 0 ∧ ∃ ob, w.heap[p.1]? = some ob ∧ ObRel X E o ob := by
  rcases (hS.objs r o h).2 with h1 | ⟨id', ob, h1, h2, h3⟩
  · rw [hm] at h1; cases h1
  · rw [hm] at h1; cases h1; exact ⟨rfl, ob, h2, h3⟩

theorem memN_iff (n : Nat) : ∀ (l : List Nat), memN n l = true ↔ n ∈ l
  | [] => by simp [memN]
  | x :: r => by
    have ih := memN_iff n r
    change (Bool.rec (memN n r) true (Nat.beq x n) : Bool) = true ↔ _
    cases e : Nat.beq x n with
    | true =>
      rw [beq_iff, decide_eq_true_eq] at e
      simp [e]
    | false =>
      rw [beq_iff, decide_eq_false_iff_not] at e
      rw [List.mem_cons]
      exact ⟨fun h => .inr (ih.1 h), fun h => ih.2 (h.resolve_left fun h' => e h'.symm)⟩
theorem leftM_rel {seen : List Nat} : ∀ {es : List (AV × AV × Nat)} {ms : List MapEntry}, EntsRel E es ms → EntsRel E (leftM es seen) (ms.filter fun e => !seen.contains e.born)
  | [], [], _ => trivial
  | e :: es, m :: ms, ⟨h1, h2⟩ => by
    have ih := leftM_rel (seen := seen) h2
    change EntsRel E (bif_ (memN e.2.2 seen) (leftM es seen) (e :: leftM es seen)) _
    have hb : memN e.2.2 seen = seen.contains m.born := by
      rw [h1.2.2]
      cases hc : seen.contains m.born with
      | true => rw [memN_iff]; simpa using hc
      | false =>
        cases hm : memN m.born seen with
        | false => rfl
        | true => rw [memN_iff] at hm; simp [hm] at hc
    rw [hb]
    cases hc : seen.contains m.born with
    | true => rw [List.filter_cons]; simp only [hc, Bool.not_true, Bool.false_eq_true, if_false]; exact ih
    | false => rw [List.filter_cons]; simp only [hc, Bool.not_false, if_true]; exact ⟨h1, ih⟩
  | [], _ :: _, h => h.elim
  | _ :: _, [], h => h.elim
theorem allBorn_rel {n : Nat} {lt : Bool} : ∀ {es : List (AV × AV × Nat)} {ms : List MapEntry}, EntsRel E es ms → allBorn n lt es = ms.all fun e => lt == decide (e.born < n)
  | [], [], _ => rfl
  | e :: es, m :: ms, ⟨h1, h2⟩ => by
    have ih := allBorn_rel (n := n) (lt := lt) h2
    change bif_ (bbeq lt (Nat.blt e.2.2 n)) (allBorn n lt es) false = _
    rw [bbeq_eq, blt_iff, h1.2.2, ih, List.all_cons]
    cases lt <;> cases hd : decide (m.born < n) <;> simp [bif_]
  | [], _ :: _, h => h.elim
  | _ :: _, [], h => h.elim
theorem each_inv {r m since stepped : Nat} {seen : List Nat} : ∀ {l : List (AV × AV × Nat)}, (eachM r m since stepped seen st k l).holds Θ E.va R → ∀ e ∈ l, (k (.tuple [.bool true, e.1, e.2.1]) (st.setO r (.mapIt (some m) since (seen ++ [e.2.2]) stepped))).holds Θ E.va R
  | [], _, e, he => by cases he
  | x :: l, h, e, he => by
    obtain ⟨h1, h2⟩ : (withO st r (.mapIt (some m) since (seen ++ [x.2.2]) stepped) (k (.tuple [.bool true, x.1, x.2.1]))).holds Θ E.va R ∧ (eachM r m since stepped seen st k l).holds Θ E.va R := h
    rw [withO_eq] at h1
    rcases List.mem_cons.1 he with rfl | he
    · exact h1
    · exact each_inv h2 e he
theorem run_pick {P : Program} (w : World) (n : Nat) (h : 0 < n) : ∃ i w1, (choose (.mapNext n)).run P w = .ok i w1 ∧ (w1 = w ∨ w1 = w.drew) ∧ i < n := by
  rw [run_choose_drew]
  split
  · exact ⟨0, w, rfl, .inl rfl, h⟩
  · exact ⟨_, w.drew, rfl, .inr rfl, Nat.mod_lt _ h⟩
theorem nextM_run {P : Program} {t : TypeId} {id m since last clock : Nat} {seen : Array Nat} {ms : Array MapEntry} (hi : w.heap[id]? = some (.mapIter (some m) since seen last)) (hm : w.heap[m]? = some (.map ms clock))
    (h1 : (!seen.isEmpty && !ms.isEmpty && ms.all (·.born ≥ last)) = false) (h2 : ∀ e ∈ ms.toList.filter (fun e => !seen.toList.contains e.born), e.born < since) :
    (ms.toList.filter (fun e => !seen.toList.contains e.born) = [] → ∃ w1, (w1 = w ∨ w1 = w.drew) ∧ (Instr.next (.pointer (some ⟨id, 0, none⟩)) false t).run P w = .ok (.tuple #[.bool false]) w1) ∧
    (ms.toList.filter (fun e => !seen.toList.contains e.born) ≠ [] → ∃ e ∈ ms.toList.filter (fun e => !seen.toList.contains e.born), ∃ w1, (w1 = w ∨ w1 = w.drew) ∧
      (Instr.next (.pointer (some ⟨id, 0, none⟩)) false t).run P w = .ok (.tuple #[.bool true, e.key, e.val]) (w1.putObj id (.mapIter (some m) since (seen.push e.born) clock))) := by
  have hg : (getObj id).run P w = .ok (.mapIter (some m) since seen last) w := run_getO hi (by intros; exact Obj.noConfusion)
  have hleft : (ms.filter fun e => !seen.contains e.born).toList = ms.toList.filter (fun e => !seen.toList.contains e.born) := by simp
  have hold : (ms.filter fun e => !seen.contains e.born).filter (·.born < since) = ms.filter fun e => !seen.contains e.born := by
    rw [Array.filter_eq_self]
    intro e he
    have := h2 e (by rw [← hleft]; simpa using he)
    simpa using this
  have hnew : (ms.filter fun e => !seen.contains e.born).filter (·.born ≥ since) = #[] := by
    rw [Array.filter_eq_empty_iff]
    intro e he
    have := h2 e (by rw [← hleft]; simpa using he)
    simpa using this
  generalize hL : (ms.filter fun e => !seen.contains e.born) = L at hold hnew hleft
  have hset : ∀ (ob : Obj) (w1 : World), (w1 = w ∨ w1 = w.drew) → (setObj id ob).run P w1 = .ok () (w1.putObj id ob) := by
    rintro ob w1 (rfl | rfl)
    · simp [setObj, Sem.run, hi, World.putObj]
    · have : w.drew.heap[id]? = some (.mapIter (some m) since seen last) := hi
      simp [setObj, Sem.run, this, World.putObj]
  refine ⟨fun he => ?_, fun hne => ?_⟩
  · have hLe : L = #[] := by apply Array.ext'; rw [hleft, he]
    subst hLe
    obtain ⟨i, w1, g1, g2, g3⟩ := run_pick (P := P) w 1 (by decide)
    have : i = 0 := by omega
    subst this
    refine ⟨w1, g2, ?_⟩
    simp only [Instr.next, Sem.run_bind, hg, Result.andThen_ok, run_getMap hm, h1, Bool.false_eq_true, if_false, hL, hold, hnew]
    simp [g1, -run_choose_drew, -run_choose]
  · have hLs : 0 < L.size := by
      rcases Nat.eq_zero_or_pos L.size with e | e
      · exact absurd (by rw [← hleft]; exact List.eq_nil_of_length_eq_zero (by simpa using e)) hne
      · exact e
    obtain ⟨i, w1, g1, g2, g3⟩ := run_pick (P := P) w L.size hLs
    have hLi : L[i]? = some L[i] := Array.getElem?_eq_getElem g3
    have hemp : L.isEmpty = false := by
      rw [Array.isEmpty_eq_false_iff]; intro e; rw [e] at hLs; simp at hLs
    refine ⟨L[i], by rw [← hleft]; simp, w1, g2, ?_⟩
    simp only [Instr.next, Sem.run_bind, hg, Result.andThen_ok, run_getMap hm, h1, Bool.false_eq_true, if_false, hL, hold, hnew, hemp]
    simp [g1, hLi, hset _ w1 g2, -run_choose_drew, -run_choose]
end
end Go.Sy
