import Derived.Test.YtjpohnhgajjndajGreatDoorSyEB
/-! Append where it isn't known whether there is room. -/
namespace Go.Sy
section
variable {X : Tabs} {K : Nat → Prop} {w0 : World} {E : Env} {st : St} {w : World} {Θ : Pred} {R : List Back} {tm : Tm} {k : Kt} {o : Oper}

/-- A block that may be one with an elder one. -/
theorem shared (hS : StRel X K w0 E st w) {k : Nat} {b : Blk} (hk : st.heap.get k = some b) {id sh : Nat} (hm : E.m[k]? = some (some (id, sh))) {w2 : World} {id2 sh2 c2 es : Nat} {start : Nat} {all : List AV} {xs : List Value}
    (hx : denL E all = some xs) (hst : start ≤ b.sz) (hK : ¬ K id2) (hid2 : id2 < w2.heap.size) (hsize : w.heap.size ≤ w2.heap.size) (hkept : Kept K w0 w2)
    (hoth : ∀ (j : Nat), j ≠ id → j < w.heap.size → w2.heap[j]? = w.heap[j]?)
    (hnew : ∀ (j : Nat) (bj : Blk) (p : Nat × Nat), st.heap.get j = some bj → bj.fam ≠ b.fam → E.m[j]? = some (some p) → p.1 ≠ id2)
    {cs : Array Value} {el : TypeId} {fr : Nat × Nat} (hh : w.heap[id]? = some (.cells cs el fr)) (hr : BlkRel E b sh cs fr)
    {cs' : Array Value} (hid : w2.heap[id]? = some (.cells cs' el fr)) (hidsz : cs'.size = cs.size) (hidc : ∀ i, i < start → cs'[i + sh]? = cs[i + sh]?)
    {cs2 : Array Value} {el2 : TypeId} {fr2 : Nat × Nat} (hh2 : w2.heap[id2]? = some (.cells cs2 el2 fr2)) (hfr2 : fr2.1 = fr2.2 ∨ cs2.size ≤ fr2.1) (hroom : xs.length + sh2 ≤ cs2.size) (hcells : ∀ (i : Nat) (y : Value), xs[i]? = some y → cs2[i + sh2]? = some y) (hcap : c2 * es + sh2 ≤ cs2.size) (hin : xs.length ≤ c2 * es)
    {h' : Tr Blk} (hget : ∀ j, h'.get j = if j = st.n then some ⟨lenL all, puts all 0 .nil, [], 0, b.fam, Nat.succ st.nc, es⟩ else if j = k then some ⟨start, cutTr b.cells (b.sz - start) start, [], 0, b.fam, b.cv, b.es⟩ else if j ∈ famOf st b k then none else st.heap.get j) :
    StRel X K w0 (E.both (id2, sh2) c2) ⟨Nat.succ st.n, Nat.succ st.nc, h', st.live.set b.fam (some [k, st.n]), st.x⟩ w2 ∧ HP E (E.both (id2, sh2) c2) st ⟨Nat.succ st.n, Nat.succ st.nc, h', st.live.set b.fam (some [k, st.n]), st.x⟩ := by
  have hle := E.le_both (id2, sh2) c2
  have hkn : k < st.n := (hS.lt k b hk).1
  have hmn := both_n hS (id2, sh2) c2
  have hkeep : ∀ (j : Nat) (q : Option (Nat × Nat)), E.m[j]? = some q → (E.both (id2, sh2) c2).m[j]? = some q := fun j q h => both_keep E _ _ h
  have hmk := hkeep k _ hm
  have hold : ∀ (j : Nat) (p : Nat × Nat), (E.both (id2, sh2) c2).m[j]? = some (some p) → (j < st.n ∧ E.m[j]? = some (some p)) ∨ (j = st.n ∧ p = (id2, sh2)) := by
    intro j p hp
    rcases both_old E _ _ hp with ⟨h1, h2⟩ | ⟨h1, h2⟩
    · exact .inl ⟨by rw [← hS.n_eq]; exact h1, h2⟩
    · exact .inr ⟨by rw [h1, hS.n_eq], by simpa using h2⟩
  obtain ⟨qf, hqf⟩ := hS.famh k b _ hk hm
  have kinds : ∀ j bj, h'.get j = some bj → (j = st.n ∧ bj = ⟨lenL all, puts all 0 .nil, [], 0, b.fam, Nat.succ st.nc, es⟩) ∨ (j = k ∧ bj = ⟨start, cutTr b.cells (b.sz - start) start, [], 0, b.fam, b.cv, b.es⟩) ∨
      (j ≠ k ∧ j < st.n ∧ st.heap.get j = some bj ∧ bj.fam ≠ b.fam) := by
    intro j bj hj
    rw [hget] at hj
    split at hj
    · cases hj; exact .inl ⟨by assumption, rfl⟩
    · split at hj
      · cases hj; exact .inr (.inl ⟨by assumption, rfl⟩)
      · split at hj
        · cases hj
        · rename_i h1 h2 h3
          exact .inr (.inr ⟨h2, (hS.lt j bj hj).1, hj, fun e => h3 (hS.lives k b hk j bj hj e)⟩)
  have fam_of : ∀ j bj, h'.get j = some bj → bj.fam = b.fam ∨ (st.heap.get j = some bj ∧ bj.fam ≠ b.fam) := by
    intro j bj hj
    rcases kinds j bj hj with ⟨_, rfl⟩ | ⟨_, rfl⟩ | ⟨_, _, h1, h2⟩
    · exact .inl rfl
    · exact .inl rfl
    · exact .inr ⟨h1, h2⟩
  refine ⟨⟨by simp [Env.both, hS.n_eq], by simp [Env.both, hS.c_eq], hS.z_eq, hS.a_eq, hS.o_eq, hS.klt, hkept, ?_, ?_, ?_, ?_, ?_, ?_, ?_, ?_, ?_, hS.facts, ?_, ?_⟩, ?_⟩
  · intro j p hp
    rcases hold j p hp with ⟨_, h⟩ | ⟨_, rfl⟩
    · have := hS.ids j p h; exact ⟨this.1, Nat.lt_of_lt_of_le this.2 hsize⟩
    · exact ⟨hK, hid2⟩
  · intro j bj hj
    have hf := (hS.lt k b hk).2
    rcases kinds j bj hj with ⟨rfl, rfl⟩ | ⟨rfl, rfl⟩ | ⟨_, h0, h1, h2⟩
    · exact ⟨Nat.lt_succ_self _, Nat.lt_succ_of_lt hf⟩
    · exact ⟨Nat.lt_succ_of_lt hkn, Nat.lt_succ_of_lt hf⟩
    · have := hS.lt j bj h1; exact ⟨Nat.lt_succ_of_lt this.1, Nat.lt_succ_of_lt this.2⟩
  · intro j bj hj
    rcases kinds j bj hj with ⟨e0, e1⟩ | ⟨e0, e1⟩ | ⟨_, h0, h1, h2⟩
    · subst e0 e1
      refine .inr ⟨id2, sh2, cs2, el2, fr2, hmn, hh2, hfr2, ?_, ?_, ?_, ?_⟩
      · show lenL all + sh2 ≤ _; rw [lenL_eq, ← denL_length hx]; exact hroom
      · intro i v hv
        have hv' : (puts all 0 .nil).get i = some v := hv
        rw [puts_get] at hv'
        show i < lenL all
        rw [lenL_eq]
        split at hv'
        · omega
        · simp at hv'
      · intro i hi
        have : i = st.nc := by have : Nat.succ st.nc = i + 1 := hi; omega
        subst this
        refine ⟨c2, both_c hS _ _, hcap, ?_⟩
        show lenL all ≤ _
        rw [lenL_eq, ← denL_length hx]; exact hin
      · intro i v hv
        have hv' : (puts all 0 .nil).get i = some v := by
          rw [cell_eq] at hv
          simp only at hv
          cases e : (puts all 0 .nil).get i with
          | some u => rw [e] at hv; exact hv
          | none => rw [e] at hv; simp at hv
        rw [puts_get] at hv'
        by_cases c : 0 ≤ i ∧ i < 0 + all.length
        · rw [if_pos c] at hv'
          obtain ⟨y, h1, h2⟩ := denL_get hx hv'
          exact ⟨y, den_mono hle _ h1, by simpa using hcells _ _ h2⟩
        · rw [if_neg c] at hv'; simp at hv'
    · subst e0 e1
      have hget' : ∀ i v, (cutTr b.cells (b.sz - start) start).get i = some v → i < start ∧ b.cells.get i = some v := by
        intro i v hv
        rw [cutTr_get] at hv
        split at hv
        · cases hv
        · have := hr.bnd i v hv; exact ⟨by omega, hv⟩
      refine .inr ⟨id, sh, cs', el, fr, hmk, hid, ?_, ?_, fun i v hv => (hget' i v hv).1, fun i hi => ?_, fun i v hv => ?_⟩
      · rw [hidsz]; exact hr.free
      · have := hr.room; show start + sh ≤ cs'.size; omega
      · obtain ⟨c, g1, g2, g3⟩ := hr.cap i hi; exact ⟨c, hle.caps _ _ g1, by show c * b.es + sh ≤ _; omega, by show start ≤ c * b.es; omega⟩
      · have hv' : (cutTr b.cells (b.sz - start) start).get i = some v := by
          rw [cell_eq] at hv
          simp only at hv
          cases e : (cutTr b.cells (b.sz - start) start).get i with
          | some u => rw [e] at hv; exact hv
          | none => rw [e] at hv; simp at hv
        obtain ⟨g1, g2⟩ := hget' i v hv'
        obtain ⟨y, g3, g4⟩ := hr.cells i v (by rw [cell_eq, g2])
        exact ⟨y, den_mono hle _ g3, by rw [hidc i g1]; exact g4⟩
    · rcases hS.blks j bj h1 with hn | ⟨id', sh', cs0, el0, fr0, hm', hh', hr'⟩
      · exact .inl ⟨hkeep _ _ hn.1, hn.2.1, fun i v hv => (hn.2.2 i v hv).mono hle⟩
      · have hne : id' ≠ id := hS.fams j k bj b id' sh' id sh h1 hk hm' hm h2
        exact .inr ⟨id', sh', cs0, el0, fr0, hkeep _ _ hm', by rw [hoth id' hne (hS.ids j _ hm').2]; exact hh', hr'.mono hle⟩
  · intro k1 k2 b1 b2 id1 sh1 id2' sh2' h1 h2 m1 m2 hf
    have two : ∀ (j1 j2 : Nat) (c1 c2' : Blk) (i1 s1 i2 s2 : Nat), h'.get j1 = some c1 → h'.get j2 = some c2' → (E.both (id2, sh2) c2).m[j1]? = some (some (i1, s1)) → (E.both (id2, sh2) c2).m[j2]? = some (some (i2, s2)) → c1.fam = b.fam → c2'.fam ≠ b.fam → i1 ≠ i2 := by
      intro j1 j2 c1 c2' i1 s1 i2 s2 g1 g2 n1 n2 f1 f2
      rcases kinds j2 c2' g2 with ⟨_, e⟩ | ⟨_, e⟩ | ⟨_, q1, q2, q3⟩
      · subst e; exact absurd rfl f2
      · subst e; exact absurd rfl f2
      · rcases hold j2 _ n2 with ⟨_, n2⟩ | ⟨e, _⟩
        · rcases kinds j1 c1 g1 with ⟨e1, _⟩ | ⟨e1, _⟩ | ⟨_, _, _, q⟩
          · rw [e1, hmn] at n1; cases n1
            exact fun e => hnew j2 c2' _ q2 q3 n2 e.symm
          · rw [e1, hmk] at n1; cases n1
            exact fun e => hS.fams j2 _ c2' b i2 s2 id sh q2 hk n2 hm q3 e.symm
          · exact absurd f1 q
        · omega
    rcases fam_of k1 b1 h1 with f1 | ⟨g1, f1⟩ <;> rcases fam_of k2 b2 h2 with f2 | ⟨g2, f2⟩
    · exact absurd (f1.trans f2.symm) hf
    · exact two k1 k2 b1 b2 id1 sh1 id2' sh2' h1 h2 m1 m2 f1 f2
    · exact fun e => two k2 k1 b2 b1 id2' sh2' id1 sh1 h2 h1 m2 m1 f2 f1 e.symm
    · rcases hold k1 _ m1 with ⟨_, m1⟩ | ⟨e, _⟩
      · rcases hold k2 _ m2 with ⟨_, m2⟩ | ⟨e, _⟩
        · exact hS.fams k1 k2 b1 b2 id1 sh1 id2' sh2' g1 g2 m1 m2 hf
        · have := (hS.lt k2 b2 g2).1; omega
      · have := (hS.lt k1 b1 g1).1; omega
  · intro f l hl
    have hl : (st.live.set b.fam (some [k, st.n])).get f = some l := hl
    rw [Tr.get_set] at hl
    split at hl
    · rename_i e; rw [← e]; exact Nat.lt_succ_of_lt (hS.lt k b hk).2
    · exact Nat.lt_succ_of_lt (hS.livelt f l hl)
  · intro j bj hj k' b' hk' hf
    show k' ∈ (Option.rec [j] (fun l => l) ((st.live.set b.fam (some [k, st.n])).get bj.fam) : List Nat)
    rcases fam_of j bj hj with f1 | ⟨g1, f1⟩
    · rw [f1, Tr.get_set_same]
      show k' ∈ [k, st.n]
      rcases kinds k' b' hk' with ⟨e, _⟩ | ⟨e, _⟩ | ⟨_, _, _, q⟩
      · simp [e]
      · simp [e]
      · exact absurd (hf.trans f1) q
    · rw [Tr.get_set_other _ _ (fun e => f1 e.symm)]
      rcases fam_of k' b' hk' with f2 | ⟨g2, f2⟩
      · exact absurd (hf.symm.trans f2) f1
      · exact hS.lives j bj g1 k' b' g2 hf
  · intro j oj hj
    obtain ⟨h1, h2⟩ := hS.objs j oj hj
    refine ⟨Nat.lt_succ_of_lt h1, ?_⟩
    rcases h2 with h2 | ⟨id3, ob, g1, g2, g3⟩
    · exact .inl (hkeep _ _ h2)
    · refine .inr ⟨id3, ob, hkeep _ _ g1, ?_, g3.mono hle⟩
      rw [hoth id3 _ (hS.ids j _ g1).2]; exact g2
      rintro rfl
      rw [hh] at g2; cases g2
      exact g3.notCells
  · intro k1 k2 o1 o2 p h1 h2 m1 m2
    have l1 := (hS.objs k1 o1 h1).1
    have l2 := (hS.objs k2 o2 h2).1
    rcases hold k1 _ m1 with ⟨_, m1⟩ | ⟨e, _⟩
    · rcases hold k2 _ m2 with ⟨_, m2⟩ | ⟨e, _⟩
      · exact hS.oinj k1 k2 o1 o2 p h1 h2 m1 m2
      · omega
    · omega
  · intro j oj hj
    have h0 := hS.apart j oj hj
    have h1 := (hS.objs j oj hj).1
    show h'.get j = none
    cases e : h'.get j with
    | none => rfl
    | some bj =>
      rcases kinds j bj e with ⟨e1, _⟩ | ⟨e1, _⟩ | ⟨_, _, q, _⟩
      · omega
      · subst e1; rw [hk] at h0; cases h0
      · rw [h0] at q; cases q
  · intro j bj p hj hp
    rcases kinds j bj hj with ⟨_, rfl⟩ | ⟨_, rfl⟩ | ⟨_, q0, q1, q2⟩
    · exact ⟨qf, hkeep _ _ hqf⟩
    · exact ⟨qf, hkeep _ _ hqf⟩
    · rcases hold j p hp with ⟨_, h⟩ | ⟨e, _⟩
      · obtain ⟨q, hq⟩ := hS.famh j bj p q1 h
        exact ⟨q, hkeep _ _ hq⟩
      · omega
  · intro f l hl
    have hl : (st.live.set b.fam (some [k, st.n])).get f = some l := hl
    rw [Tr.get_set] at hl
    split at hl
    · rename_i e
      cases hl
      rw [← e]
      refine ⟨⟨qf, hkeep _ _ hqf⟩, fun j hj => ?_⟩
      rcases List.mem_cons.1 hj with rfl | hj
      · exact ⟨_, hmk⟩
      · rw [List.mem_singleton.1 hj]; exact ⟨_, hmn⟩
    · obtain ⟨⟨q, hq⟩, h2⟩ := hS.liveh f l hl
      exact ⟨⟨q, hkeep _ _ hq⟩, fun j hj => let ⟨q, hq⟩ := h2 j hj; ⟨q, hkeep _ _ hq⟩⟩
  · intro j hj
    have hlt : j < st.n := by rw [← hS.n_eq]; exact (List.getElem?_eq_some_iff.1 hj).1
    refine ⟨hkeep _ _ hj, ?_, rfl, ?_⟩
    · show h'.get j = _
      rw [hget, if_neg (by omega), if_neg (fun e => by subst e; rw [hm] at hj; cases hj), if_neg fun h => ?_]
      obtain ⟨q, hq⟩ := fam_mem hS (k := k) (b := b) hm j h
      rw [hj] at hq; cases hq
    · show (st.live.set b.fam (some [k, st.n])).get j = _
      rw [Tr.get_set_other]
      rintro rfl
      rw [hqf] at hj; cases hj
end
end Go.Sy
