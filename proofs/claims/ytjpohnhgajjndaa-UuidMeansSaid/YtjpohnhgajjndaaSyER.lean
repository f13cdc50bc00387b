import Derived.Test.YtjpohnhgajjndaaSyEQ
/-! Steps of iterators. -/
namespace Go.Sy
section
variable {X : Tabs} {K : Nat → Prop} {w0 : World} {E : Env} {st : St} {w : World} {Θ : Pred} {R : List Back} {tm : Tm} {k : Kt} {o : Oper}

theorem false1_den : (AV.tuple [.bool false]).den E = some (.tuple #[.bool false]) := rfl
theorem nextM_out (hS : StRel X K w0 E st w) {x : Operand} {b : BO} (hb : cO x = some b) (ho : o.op = .next x false) (h : (xNextM st k (ev tm b)).holds Θ E.va R) : EffOut X K w0 Θ R E o tm st w k := by
  intro ρ hR
  have h1 := hR.get (x := x) (by rw [ho]; simp [Op.operands]) hb
  obtain ⟨r, hr, h⟩ := vbind_inv h
  rw [itOf_inv hr] at h1
  obtain ⟨p, hp, e0⟩ := it_den h1
  have go : ∀ v w', (Instr.next (ρ x) false o.type).run X.P w = .ok v w' → (execOp ρ o).run X.P w = .ok (.value v) w' := by
    intro v w' hw
    simp [execOp, ho, hw]
  unfold nextMO at h
  split at h
  · rename_i since seen last hob
    obtain ⟨hp2, ob, hh, hrel⟩ := obj_any hS hob hp
    cases ob <;> simp only [ObRel] at hrel
    rename_i m' c' l' d'
    obtain ⟨hm, _⟩ := hrel
    cases m' with
    | some _ => exact hm.elim
    | none =>
      rw [e0, hp2] at go
      rw [go (.tuple #[.bool false]) w (by simp [Instr.next, run_getO hh (by intros; exact Obj.noConfusion)])]
      exact .now h hS rfl
  · rename_i m since seen last hob
    obtain ⟨mm, hmm, h⟩ := vbind_inv h
    unfold stepM at h
    obtain ⟨hcond, h⟩ := vif_inv h
    obtain ⟨hp2, ob, hh, hrel⟩ := obj_any hS hob hp
    cases ob <;> simp only [ObRel] at hrel
    rename_i m' c' l' d'
    obtain ⟨hm, rfl, hseen, rfl⟩ := hrel
    cases m' with
    | none => exact hm.elim
    | some idm =>
      obtain ⟨id, sh⟩ := p
      have hsh : sh = 0 := hp2
      subst hsh
      have hm : E.m[m]? = some (some (idm, 0)) := hm
      obtain ⟨ms, hhm, hent⟩ := map_at hS (mapOf_inv hmm) hm
      subst hseen
      have hl := leftM_rel (seen := l'.toList) hent
      rw [Bool.and_eq_true] at hcond
      obtain ⟨c1, c2⟩ := hcond
      rw [allBorn_rel hent] at c1
      rw [allBorn_rel hl] at c2
      have hnilS : isNil l'.toList = l'.isEmpty := by rw [isNil_eq]; cases l'; simp
      have hnilE : isNil mm.1 = ms.isEmpty := by
        rw [isNil_eq]
        have := hent.length
        cases e : mm.1 <;> rw [e] at this <;> simp at this <;> simp [← Array.size_eq_zero_iff] <;> omega
      have hc1 : (!l'.isEmpty && !ms.isEmpty && ms.all (·.born ≥ last)) = false := by
        rw [hnilS, hnilE] at c1
        have e : (ms.toList.all fun e => false == decide (e.born < last)) = ms.all (·.born ≥ last) := by
          rw [← Array.all_toList]
          congr 1; funext e
          by_cases c : e.born < last
          · simp [c]
          · simp [c]; omega
        rw [e] at c1
        revert c1
        generalize l'.isEmpty = p1
        generalize ms.isEmpty = p2
        generalize ms.all (fun x => decide (x.born ≥ last)) = p3
        cases p1 <;> cases p2 <;> cases p3 <;> simp
      have hc2 : ∀ e ∈ ms.toList.filter (fun e => !l'.toList.contains e.born), e.born < since := by
        intro e he
        have := List.all_eq_true.1 c2 e he
        simpa using this
      obtain ⟨g1, g2⟩ := nextM_run (P := X.P) (t := o.type) hh hhm hc1 hc2
      rw [e0] at go
      have hd : ∀ w1, (w1 = w ∨ w1 = w.drew) → StRel X K w0 E st w1 := by
        rintro w1 (rfl | rfl)
        · exact hS
        · exact hS.drew
      rcases bif_holds h with ⟨he, h⟩ | ⟨he, h⟩
      · rw [isNil_eq, List.isEmpty_iff] at he
        have : ms.toList.filter (fun e => !l'.toList.contains e.born) = [] := by
          have := hl.length; rw [he] at this
          exact List.eq_nil_of_length_eq_zero this.symm
        obtain ⟨w1, q1, q2⟩ := g1 this
        rw [go _ _ q2]
        exact .now h (hd w1 q1) rfl
      · have hne : ms.toList.filter (fun e => !l'.toList.contains e.born) ≠ [] := by
          intro e
          have := hl.length; rw [e] at this
          rw [isNil_eq, List.eq_nil_of_length_eq_zero this] at he
          cases he
        obtain ⟨e, he', w1, q1, q2⟩ := g2 hne
        rw [go _ _ q2]
        obtain ⟨i, hi⟩ := List.getElem?_of_mem he'
        have hlen := hl.length
        have hilt := (List.getElem?_eq_some_iff.1 hi).1
        have hsome : ∃ ea, (leftM mm.1 l'.toList)[i]? = some ea := ⟨_, List.getElem?_eq_getElem (by omega)⟩
        obtain ⟨ea, hea⟩ := hsome
        obtain ⟨e', f1, f2⟩ := hl.get hea
        rw [hi] at f1; cases f1
        have hk := each_inv h ea (List.mem_of_getElem? hea)
        have hS1 := hd w1 q1
        have hh1 : w1.heap[id]? = some (.mapIter (some idm) since l' last) := by rcases q1 with rfl | rfl <;> exact hh
        refine .setO hS1 hk hob hp hh1 ⟨hm, rfl, rfl, rfl⟩ ⟨hm, rfl, ?_, rfl⟩ ?_
        · rw [Array.toList_push, f2.2.2]
        · exact den_tuple_of (denL_cons.2 ⟨_, _, rfl, denL_cons.2 ⟨_, _, f2.1, denL_cons.2 ⟨_, _, f2.2.1, rfl, rfl⟩, rfl⟩, rfl⟩)
  · exact h.elim

theorem decode_ascii {s : List Nat} {pos c : Nat} (h : s[pos]? = some c) (hc : c < 128) : Utf8.decode (bytesOf s) pos = (c, 1) := by
  have hlt := (List.getElem?_eq_some_iff.1 h).1
  have hget : ((bytesOf s).get! (pos + 0)).toNat = c := by
    have : (bytesOf s).get! (pos + 0) = UInt8.ofNat c := by
      unfold bytesOf
      show (s.map UInt8.ofNat).toArray[pos + 0]! = _
      rw [Nat.add_zero]
      simp [hlt]
      rw [(List.getElem?_eq_some_iff.1 h).2]
    rw [this, toU8 (by omega)]
  unfold Utf8.decode
  simp only [hget]
  rw [if_pos hc]
theorem nextT_out (hS : StRel X K w0 E st w) {x : Operand} {b : BO} (hb : cO x = some b) (ho : o.op = .next x true) (h : (xNextT st k (ev tm b)).holds Θ E.va R) : EffOut X K w0 Θ R E o tm st w k := by
  intro ρ hR
  have h1 := hR.get (x := x) (by rw [ho]; simp [Op.operands]) hb
  obtain ⟨r, hr, h⟩ := vbind_inv h
  rw [itOf_inv hr] at h1
  obtain ⟨p, hp, e0⟩ := it_den h1
  have go : ∀ v w', (Instr.next (ρ x) true o.type).run X.P w = .ok v w' → (execOp ρ o).run X.P w = .ok (.value v) w' := by
    intro v w' hw
    simp [execOp, ho, hw]
  unfold nextTO at h
  split at h
  · rename_i n s pos hob
    obtain ⟨hp2, ob, hh, hrel⟩ := obj_any hS hob hp
    obtain ⟨id, sh⟩ := p
    have hsh : sh = 0 := hp2
    subst hsh
    cases ob <;> simp only [ObRel] at hrel
    rename_i sb sp
    obtain ⟨hn, hs, rfl, rfl⟩ := hrel
    rw [e0] at go
    have hg := run_getO (P := X.P) hh (by intros; exact Obj.noConfusion)
    rw [blt_iff] at h
    by_cases c : sp < n
    · rw [decide_eq_true c] at h
      obtain ⟨cc, hcc, h⟩ := vbind_inv h
      obtain ⟨hcond, h⟩ := vif_inv h
      rw [natK_eq, withO_eq] at h
      rw [getL_eq] at hcc
      simp only [Bool.and_eq_true, blt_iff, decide_eq_true_eq] at hcond
      have hdec := decode_ascii hcc hcond.1
      have hlt : sp < (bytesOf s).size := by rw [bytesOf_size]; omega
      have hrun := go (.tuple #[.bool true, goInt sp, .int .i32 cc]) (w.putObj id (.stringIter (bytesOf s) (sp + 1))) (by
        simp [Instr.next, hg, hlt, hdec, setObj, Sem.run, hh, World.putObj])
      rw [hrun]
      exact .setO hS h hob hp hh ⟨hn, hs, rfl, rfl⟩ ⟨hn, hs, rfl, rfl⟩ (den_tuple_of (denL_cons.2 ⟨_, _, rfl, denL_cons.2 ⟨_, _, den_i64 hcond.2, denL_cons.2 ⟨_, _, by rw [den_int_of (by simp only [modOf]; omega), sgn_nat .i32 (by simp only [halfOf]; omega)], rfl, rfl⟩, rfl⟩, rfl⟩))
    · rw [decide_eq_false c] at h
      have hlt : ¬ sp < (bytesOf s).size := by rw [bytesOf_size]; omega
      rw [go (.tuple #[.bool false]) w (by simp [Instr.next, hg, hlt])]
      exact .now h hS rfl
  · exact h.elim

theorem lastL_eq : ∀ (l : List Nat), lastL l = l.getLast?
  | [] => rfl
  | [x] => rfl
  | x :: y :: r => by
    have ih := lastL_eq (y :: r)
    change (Option.rec (some x) (fun y => some y) (lastL (y :: r)) : Option Nat) = _
    rw [ih, List.getLast?_cons_cons]
    cases e : (y :: r).getLast? with
    | none => simp at e
    | some z => rfl
theorem find_born {ms : Array MapEntry} {n j : Nat} {m : MapEntry} (h : ms.toList[j]? = some m) (hb : m.born = n) (hno : ∀ k m', k < j → ms.toList[k]? = some m' → m'.born ≠ n) : ms.find? (·.born == n) = some m := by
  rw [Array.find?_eq_some_iff_getElem]
  obtain ⟨hj1, hj2⟩ := List.getElem?_eq_some_iff.1 h
  rw [Array.length_toList] at hj1
  refine ⟨by simpa using hb, j, hj1, by simpa using hj2, fun k hk => ?_⟩
  have := hno k (ms[k]) hk (by simp [Nat.lt_trans hk hj1])
  simpa using this
theorem entry_out (hS : StRel X K w0 E st w) {x : Operand} {b : BO} (hb : cO x = some b) (ho : o.op = .entry x) (h : (xEntry st k (ev tm b)).holds Θ E.va R) : EffOut X K w0 Θ R E o tm st w k := by
  intro ρ hR
  have h1 := hR.get (x := x) (by rw [ho]; simp [Op.operands]) hb
  obtain ⟨r, hr, h⟩ := vbind_inv h
  rw [itOf_inv hr] at h1
  obtain ⟨p, hp, e0⟩ := it_den h1
  unfold entryO at h
  split at h
  · rename_i m since seen cl hob
    obtain ⟨n, hn, h⟩ := vbind_inv h
    obtain ⟨mm, hmm, h⟩ := vbind_inv h
    obtain ⟨hcl, h⟩ := vif_inv h
    obtain ⟨q, hq, h⟩ := vbind_inv h
    rw [beq_iff, decide_eq_true_eq] at hcl
    obtain ⟨hp2, ob, hh, hrel⟩ := obj_any hS hob hp
    cases ob <;> simp only [ObRel] at hrel
    rename_i m' c' l' d'
    obtain ⟨hm, rfl, hseen, rfl⟩ := hrel
    cases m' with
    | none => exact hm.elim
    | some idm =>
      have hm : E.m[m]? = some (some (idm, 0)) := hm
      obtain ⟨ms, hhm, hent⟩ := map_at hS (mapOf_inv hmm) hm
      obtain ⟨j, mt, _, g2, g3, g4, g5, g6⟩ := bornAt_sound hent hq
      have hf := find_born g3 g5 g6
      have hback : l'.back? = some n := by
        rw [lastL_eq, ← hseen] at hn
        rw [← Array.getLast?_toList]; exact hn
      have hrun : (execOp ρ o).run X.P w = .ok (.value (.tuple #[mt.key, mt.val])) w := by
        simp [execOp, ho, e0, hp2, Instr.entry, run_getO hh (by intros; exact Obj.noConfusion), hback, run_getMap hhm, hcl, hf]
      rw [hrun]
      exact .now h hS (den_tuple_of (denL_cons.2 ⟨_, _, g4.1, denL_cons.2 ⟨_, _, g4.2.1, rfl, rfl⟩, rfl⟩))
  · exact h.elim
end
end Go.Sy
