import Derived.Test.YtjpohnhgajjndajGreatDoorSyB
import Derived.Laws.Entries
/-! Memory: loads, stores, new blocks. -/
namespace Go.Sy

structure CxOK (X : Tabs) (K : Nat → Prop) (w0 : World) : Prop where
  eqm : ∀ t m, X.cx.eqm.get t = some m → X.P.keyTypeAt m t = true ∧ X.P.eqGuardType X.P.depth t = false ∧ m ≤ 10000 ∧ (match X.P.underlying t with | some (.array _ _) | some (.struct _) => true | _ => false) = true
  und : ∀ t d, X.cx.und.get t = some d → X.P.underlying t = some d
  size : ∀ t n, X.cx.size.get t = some n → ∃ i, X.P.info? t = some i ∧ i.size = n
  zero : ∀ t z, X.cx.zero.get t = some z → ∃ i v, X.P.info? t = some i ∧ i.zero = some v ∧ i.size = z.length ∧ i.bytes ≤ 1048576 ∧ (∀ E, denL E z = some v.cells.toList) ∧ ∀ d, X.cx.und.get t = some d → isAggV v = isAggD d
  fld : ∀ t fs, X.cx.und.get t = some (.struct fs) → ∀ f ∈ fs.toList, ∃ i, X.P.info? f.type = some i
  glob : ∀ g t, X.cx.glob.get g = some t → K g ∧ ∀ i v, t.get i = some v → ∃ x, (∀ E, v.den E = some x) ∧ w0.cell? ⟨g, i, none⟩ = some x

section
variable {X : Tabs} {K : Nat → Prop} {w0 : World} {E : Env} {st : St} {w : World} {Θ : Pred} {R : List Back}

theorem CxOK.und' (hc : CxOK X K w0) {t : TypeId} {d : TypeDesc} (h : X.cx.und.get t = some d) (w : World) : (underlying t).run X.P w = .ok d w := run_underlying (hc.und t d h) w
theorem CxOK.size' (hc : CxOK X K w0) {t : TypeId} {n : Nat} (h : X.cx.size.get t = some n) (w : World) : (sizeOf t).run X.P w = .ok n w := by
  obtain ⟨i, hi, hn⟩ := hc.size t n h
  simp [sizeOf, typeInfo, hi, hn, program, Sem.run]
/-- A type's form: none of one cell, some of many. -/
theorem aggN_sound (hc : CxOK X K w0) {t : TypeId} {n : Option Nat} (h : aggN X.cx.und X.cx.size t = some n) (w : World) : (Go.isAgg t).run X.P w = .ok n.isSome w ∧ ∀ m, n = some m → X.cx.size.get t = some m := by
  obtain ⟨d, hd, h⟩ := obind_inv h
  have hi : (Go.isAgg t).run X.P w = .ok (isAggD d) w := by
    simp only [Go.isAgg, Sem.run_bind, hc.und' hd, Result.andThen_ok]
    cases d <;> rfl
  rw [hi]
  cases e : isAggD d with
  | true =>
    rw [e, bif_true] at h
    obtain ⟨m, hm, h⟩ := obind_inv h
    cases h
    exact ⟨rfl, fun k hk => by cases hk; exact hm⟩
  | false =>
    rw [e, bif_false] at h
    cases h
    exact ⟨rfl, fun k hk => by cases hk⟩

theorem add_eq (b o n : Nat) : (⟨b, o, none⟩ : Addr).add n = ⟨b, o + n, none⟩ := by unfold Addr.add; split <;> simp_all
theorem aden_add {b : Bid} {off : Nat} {ad : Addr} (h : aden E ⟨b, off⟩ = some ad) (n : Nat) : aden E ⟨b, off + n⟩ = some (ad.add n) := by
  cases b with
  | g g => cases h; rw [add_eq]; rfl
  | r k =>
    obtain ⟨p, hp, rfl⟩ := aden_r h
    rw [aden_r_of hp, add_eq]
    congr 2; omega

theorem cell_eq (b : Blk) (i : Nat) : b.cell i = match b.cells.get i with
    | some v => some v
    | none => if i < b.sz then (match b.zn with | 0 => none | j + 1 => b.z[i % (j + 1)]?) else none := by
  unfold Blk.cell
  cases b.cells.get i with
  | some v => rfl
  | none =>
    show bif_ (Nat.blt i b.sz) (natCase b.zn none fun j => getL (Nat.mod i (Nat.succ j)) b.z) none = _
    rw [blt_iff, natCase_eq]
    by_cases c : i < b.sz
    · rw [decide_eq_true c, if_pos c, bif_true]
      cases b.zn with
      | zero => rfl
      | succ j => show getL _ _ = _; rw [getL_eq]; rfl
    · rw [decide_eq_false c, if_neg c]; rfl

theorem blk_of (hS : StRel X K w0 E st w) {k : Nat} {b : Blk} (hb : st.heap.get k = some b) {p : Nat × Nat} (hp : E.m[k]? = some (some p)) :
    ∃ cs el fr, w.heap[p.1]? = some (.cells cs el fr) ∧ BlkRel E b p.2 cs fr := by
  rcases hS.blks k b hb with ⟨h, _⟩ | ⟨id, sh, cs, el, fr, h1, h2, h3⟩
  · rw [hp] at h; cases h
  · rw [hp] at h1; cases h1; exact ⟨cs, el, fr, h2, h3⟩

theorem readB_sound (hc : CxOK X K w0) (hS : StRel X K w0 E st w) {b : Bid} {i : Nat} {v : AV} (h : readB X.cx st i b = some v) {ad : Addr} (ha : aden E ⟨b, i⟩ = some ad) : ∃ x, v.den E = some x ∧ w.cell? ad = some x := by
  cases b with
  | g n =>
    cases ha
    obtain ⟨t, ht, h⟩ := obind_inv h
    obtain ⟨hk, hg⟩ := hc.glob n t ht
    obtain ⟨x, h1, h2⟩ := hg _ v h
    refine ⟨x, h1 E, ?_⟩
    have := hS.kept.block n hk
    simp only [World.cell?, this] at h2 ⊢
    exact h2
  | r k =>
    obtain ⟨bl, hbl, h⟩ := obind_inv h
    obtain ⟨p, hp, rfl⟩ := aden_r ha
    obtain ⟨cs, el, fr, hh, hr⟩ := blk_of hS hbl hp
    obtain ⟨x, h1, h2⟩ := hr.cells _ v h
    exact ⟨x, h1, by simp [World.cell?, hh, h2]⟩

theorem getsB_spec {f : Nat → Option AV} : ∀ (n o : Nat) {l : List AV}, getsB f n o = some l → l.length = n ∧ ∀ j v, l[j]? = some v → f (o + j) = some v
  | 0, o, l, h => by
    change some [] = some l at h
    cases h; exact ⟨rfl, fun j v hv => by simp at hv⟩
  | n + 1, o, l, h => by
    change obind (f o) (fun v => obind (getsB f n (o + 1)) fun vs => some (v :: vs)) = some l at h
    obtain ⟨v, hv, h⟩ := obind_inv h
    obtain ⟨vs, hvs, h⟩ := obind_inv h
    cases h
    obtain ⟨h1, h2⟩ := getsB_spec n (o + 1) hvs
    refine ⟨by simp [h1], fun j u hu => ?_⟩
    cases j with
    | zero => simp at hu; subst hu; exact hv
    | succ j => rw [show o + (j + 1) = o + 1 + j by omega]; exact h2 j u (by simpa using hu)
theorem cellsFrom_spec {b : Bid} {n o : Nat} {l : List AV} (h : cellsFrom X.cx st n o b = some l) : l.length = n ∧ ∀ j v, l[j]? = some v → readB X.cx st (o + j) b = some v := by
  cases b with
  | g g =>
    obtain ⟨t, ht, h⟩ := obind_inv h
    obtain ⟨h1, h2⟩ := getsB_spec n o h
    exact ⟨h1, fun j v hv => by show obind _ _ = _; rw [ht]; exact h2 j v hv⟩
  | r k =>
    obtain ⟨t, ht, h⟩ := obind_inv h
    obtain ⟨h1, h2⟩ := getsB_spec n o h
    exact ⟨h1, fun j v hv => by show obind _ _ = _; rw [ht]; exact h2 j v hv⟩
theorem cells_sound (hc : CxOK X K w0) (hS : StRel X K w0 E st w) {b : Bid} {n o : Nat} {l : List AV} (h : cellsFrom X.cx st n o b = some l) {ad : Addr} (ha : aden E ⟨b, o⟩ = some ad) :
    ∃ xs, denL E l = some xs ∧ xs.length = n ∧ (Go.loadCells ad n).run X.P w = .ok xs.toArray w ∧ ∀ (j : Nat) (y : Value), xs[j]? = some y → w.cell? (ad.add j) = some y := by
  obtain ⟨h1, h2⟩ := cellsFrom_spec h
  have key : ∀ j v, l[j]? = some v → ∃ x, v.den E = some x ∧ w.cell? (ad.add j) = some x := fun j v hv => readB_sound hc hS (h2 j v hv) (aden_add ha j)
  let xs : List Value := l.map fun v => (v.den E).getD undef
  have hxs : denL E l = some xs := denL_of (by simp [xs]) fun i v hv => by
    obtain ⟨x, h3, _⟩ := key i v hv
    exact ⟨x, h3, by simp [xs, hv, h3]⟩
  have hlen : xs.length = n := by simp [xs, h1]
  have hcells : ∀ (j : Nat) (x : Value), xs[j]? = some x → w.cell? (ad.add j) = some x := by
   intro j x hx
   have : ∃ v, l[j]? = some v := by
     have : j < l.length := by have := (List.getElem?_eq_some_iff.1 hx).1; simpa [xs] using this
     exact ⟨_, List.getElem?_eq_getElem this⟩
   obtain ⟨v, hv⟩ := this
   obtain ⟨y, h3, h4⟩ := key j v hv
   have : xs[j]? = some y := by simp [xs, hv, h3]
   rw [hx] at this; cases this
   exact h4
  refine ⟨xs, hxs, hlen, ?_, hcells⟩
  rw [← hlen]
  exact run_loadCells_list _ _ _ hcells

/-- A load of a type of that form. -/
theorem loadVar_sound (hc : CxOK X K w0) (hS : StRel X K w0 E st w) {t : TypeId} {n : Option Nat} (hn : aggN X.cx.und X.cx.size t = some n) {x : AAddr} {v : AV} (h : loadVar X.cx st n x = some v) {ad : Addr} (ha : aden E x = some ad) :
    ∃ y, v.den E = some y ∧ (Go.loadVar t ad).run X.P w = .ok y w := by
  obtain ⟨hi, hs⟩ := aggN_sound hc hn w
  cases n with
  | none =>
    obtain ⟨y, h1, h2⟩ := readB_sound hc hS (b := x.b) (i := x.off) h ha
    exact ⟨y, h1, by simp [Go.loadVar, hi, h2]⟩
  | some n =>
    obtain ⟨l, hl, h⟩ := obind_inv h
    cases h
    obtain ⟨xs, h1, h2, h3, _⟩ := cells_sound hc hS (b := x.b) (o := x.off) hl ha
    exact ⟨.agg xs.toArray, den_agg_of h1, by simp [Go.loadVar, hi, hc.size' (hs n rfl), h3]⟩

theorem allOne_mem : ∀ {l : List AV}, allOne l = true → ∀ v ∈ l, one1 v = true
  | [], _, v, hv => by cases hv
  | u :: r, h, v, hv => by
    change (Bool.rec false (allOne r) (one1 u) : Bool) = true at h
    cases hu : one1 u with
    | false => rw [hu] at h; cases h
    | true =>
      rw [hu] at h
      cases hv with
      | head => exact hu
      | tail _ hv => exact allOne_mem h v hv
theorem denL_one : ∀ {l : List AV} {xs : List Value}, (∀ v ∈ l, one1 v = true) → denL E l = some xs → ∀ x ∈ xs, x.oneCell' = true
  | [], xs, _, h, x, hx => by rw [denL_nil.1 h] at hx; cases hx
  | v :: r, xs, h1, h, x, hx => by
    obtain ⟨p, q, hp, hq, rfl⟩ := denL_cons.1 h
    cases hx with
    | head => exact den_one (h1 v (by simp)) hp
    | tail _ hx => exact denL_one (fun u hu => h1 u (by simp [hu])) hq x hx
theorem den_cells {v : AV} {y : Value} (h : v.den E = some y) : ∃ xs, denL E v.cells = some xs ∧ y.cells.toList = xs := by
  have key : v.cells = [v] → (∀ c, y ≠ .agg c) → ∃ xs, denL E v.cells = some xs ∧ y.cells.toList = xs := by
    intro h1 h2
    refine ⟨[y], ?_, ?_⟩
    · rw [h1]; exact denL_cons.2 ⟨y, [], h, rfl, rfl⟩
    · cases y <;> first | rfl | exact absurd rfl (h2 _)
  by_cases hone : one1 v = true
  · refine key ?_ ?_
    · cases v <;> first | rfl | cases hone
    · intro c hc; subst hc; have := den_one hone h; cases this
  · cases v <;> simp [one1] at hone
    · obtain ⟨xs, hxs, rfl⟩ := den_agg h
      exact ⟨xs, hxs, by simp [Value.cells]⟩
    · refine key rfl ?_
      simp only [AV.den, Option.map_eq_some_iff] at h
      obtain ⟨xs, hxs, rfl⟩ := h
      intro c hc; cases hc

theorem killOthers_get (k : Nat) : ∀ (l : List Nat) (h : Tr Blk) (j : Nat), (killOthers h k l).get j = if j ∈ l ∧ j ≠ k then none else h.get j
  | [], h, j => by simp [killOthers]
  | i :: r, h, j => by
    simp only [killOthers]
    cases e : Nat.beq i k with
    | true =>
      have : i = k := Nat.eq_of_beq_eq_true e
      simp only [bif_true]
      rw [killOthers_get k r h j]
      by_cases c : j ∈ r ∧ j ≠ k
      · rw [if_pos c, if_pos (by simp [c.1, c.2])]
      · rw [if_neg c, if_neg]
        rintro ⟨h1, h2⟩
        rcases List.mem_cons.1 h1 with h1 | h1
        · exact h2 (h1.trans this)
        · exact c ⟨h1, h2⟩
    | false =>
      have : i ≠ k := Nat.ne_of_beq_eq_false e
      simp only [bif_false]
      rw [killOthers_get k r _ j, Tr.get_set]
      by_cases c : j ∈ r ∧ j ≠ k
      · rw [if_pos c, if_pos (by simp [c.1, c.2])]
      · rw [if_neg c]
        by_cases c2 : i = j
        · subst c2; rw [if_pos rfl, if_pos (by simp [this])]
        · rw [if_neg c2, if_neg]
          rintro ⟨h1, h2⟩
          rcases List.mem_cons.1 h1 with h1 | h1
          · exact c2 h1.symm
          · exact c ⟨h1, h2⟩

theorem setRow_other (w : World) (g : Nat) (cs : Array Value) {i : Nat} (h : i ≠ g) : (w.setRow g cs).heap[i]? = w.heap[i]? := by
  simp only [World.setRow, Array.getElem?_modify]
  rw [if_neg (by omega)]
theorem setRow_size (w : World) (g : Nat) (cs : Array Value) : (w.setRow g cs).heap.size = w.heap.size := by simp [World.setRow]
theorem Kept.setRow (h : Kept K w0 w) {g : Nat} (hg : ¬ K g) (cs : Array Value) : Kept K w0 (w.setRow g cs) :=
  h.trans ⟨rfl, rfl, rfl, by rw [setRow_size]; exact Nat.le_refl _, fun k hk => setRow_other _ _ _ (fun e => hg (e ▸ hk))⟩
theorem Kept.alloc (h : Kept K w0 w) (hl : ∀ k, K k → k < w.heap.size) (o : Obj) : Kept K w0 (w.alloc o) :=
  h.trans ⟨rfl, rfl, rfl, by simp, fun k hk => Go.RowKit.Below.heap_alloc _ _ _ (hl k hk)⟩
theorem StRel.klt' (hS : StRel X K w0 E st w) : ∀ k, K k → k < w.heap.size := fun k hk => Nat.lt_of_lt_of_le (hS.klt k hk) hS.kept.size

/-- A change of block k's cells. -/
theorem stored (hS : StRel X K w0 E st w) {k : Nat} {b : Blk} (hk : st.heap.get k = some b) {id sh : Nat} {cs cs' : Array Value} {el : TypeId} {fr : Nat × Nat} (hm : E.m[k]? = some (some (id, sh)))
    (hh : w.heap[id]? = some (.cells cs el fr)) {b' : Blk} (hfam : b'.fam = b.fam) (hr : BlkRel E b' sh cs' fr) {h' : Tr Blk} {l' : Tr (List Nat)}
    (hget : ∀ j, h'.get j = if j = k then some b' else if j ∈ famOf st b k then none else st.heap.get j)
    (hlive : ∀ f, l'.get f = st.live.get f ∨ (f = b.fam ∧ l'.get f = some [k])) :
    StRel X K w0 E ⟨st.n, st.nc, h', l', st.x⟩ (w.setRow id cs') := by
  have other : ∀ j bj, h'.get j = some bj → j ≠ k → st.heap.get j = some bj ∧ bj.fam ≠ b.fam := by
    intro j bj hj hne
    rw [hget, if_neg hne] at hj
    split at hj
    · cases hj
    · rename_i hnot
      exact ⟨hj, fun e => hnot (hS.lives k b hk j bj hj e)⟩
  have same : h'.get k = some b' := by rw [hget, if_pos rfl]
  have idk : ∀ j o, st.x.objs.get j = some o → ∀ id2 ob, w.heap[id2]? = some ob → ObRel X E o ob → id2 ≠ id := by
    intro j o _ id2 ob h1 h2 e
    subst e
    rw [hh] at h1; cases h1
    exact h2.notCells
  refine ⟨hS.n_eq, hS.c_eq, hS.z_eq, hS.a_eq, hS.o_eq, hS.klt, hS.kept.setRow (hS.ids k _ hm).1 _, ?_, ?_, ?_, ?_, ?_, ?_, ?_, hS.oinj, ?_, hS.facts, ?_, ?_⟩
  · intro i p hp; rw [setRow_size]; exact hS.ids i p hp
  · intro j bj hj
    by_cases e : j = k
    · subst e; rw [same] at hj; cases hj; exact ⟨(hS.lt j b hk).1, by rw [hfam]; exact (hS.lt j b hk).2⟩
    · exact hS.lt j bj (other j bj hj e).1
  · intro j bj hj
    by_cases e : j = k
    · subst e; rw [same] at hj; cases hj
      exact .inr ⟨id, sh, cs', el, fr, hm, setRow_heap w id cs cs' el fr hh, hr⟩
    · obtain ⟨h1, h2⟩ := other j bj hj e
      rcases hS.blks j bj h1 with h0 | ⟨id2, sh2, cs2, el2, fr2, hm2, hh2, hr2⟩
      · exact .inl h0
      · have hne : id2 ≠ id := hS.fams j k bj b id2 sh2 id sh h1 hk hm2 hm h2
        exact .inr ⟨id2, sh2, cs2, el2, fr2, hm2, by rw [setRow_other _ _ _ hne]; exact hh2, hr2⟩
  · intro k1 k2 b1 b2 id1 sh1 id2 sh2 h1 h2 m1 m2 hf
    have old : ∀ j bj, h'.get j = some bj → ∃ bj', st.heap.get j = some bj' ∧ bj'.fam = bj.fam := by
      intro j bj hj
      by_cases e : j = k
      · subst e; rw [same] at hj; cases hj; exact ⟨b, hk, hfam.symm⟩
      · exact ⟨bj, (other j bj hj e).1, rfl⟩
    obtain ⟨b1', e1, f1⟩ := old k1 b1 h1
    obtain ⟨b2', e2, f2⟩ := old k2 b2 h2
    exact hS.fams k1 k2 b1' b2' id1 sh1 id2 sh2 e1 e2 m1 m2 (by rw [f1, f2]; exact hf)
  · intro f l hl
    rcases hlive f with h | ⟨h, _⟩
    · exact hS.livelt f l (by rw [← h]; exact hl)
    · rw [h]; exact (hS.lt k b hk).2
  · intro j bj hj k' b2 hk' hf
    by_cases e : j = k
    · subst e; rw [same] at hj; cases hj
      by_cases e' : k' = j
      · subst e'
        unfold famOf
        rw [hfam]
        rcases hlive b.fam with h | ⟨_, h⟩
        · show k' ∈ (Option.rec [k'] (fun l => l) (l'.get b.fam) : List Nat)
          rw [h]; exact hS.lives k' b hk k' b hk rfl
        · show k' ∈ (Option.rec [k'] (fun l => l) (l'.get b.fam) : List Nat)
          rw [h]; simp
      · exact absurd (hf.trans hfam) (other k' b2 hk' e').2
    · obtain ⟨h1, h2⟩ := other j bj hj e
      have hne : k' ≠ k := by
        rintro rfl
        rw [same] at hk'; cases hk'; exact h2 (hf.symm.trans hfam)
      obtain ⟨h3, _⟩ := other k' b2 hk' hne
      have := hS.lives j bj h1 k' b2 h3 hf
      unfold famOf at this ⊢
      rcases hlive bj.fam with h | ⟨h, _⟩
      · show k' ∈ (Option.rec [j] (fun l => l) (l'.get bj.fam) : List Nat)
        rw [h]; exact this
      · exact absurd h h2
  · intro j o ho
    obtain ⟨h1, h2⟩ := hS.objs j o ho
    refine ⟨h1, h2.imp (fun h => h) ?_⟩
    rintro ⟨id2, ob, g1, g2, g3⟩
    exact ⟨id2, ob, g1, by rw [setRow_other _ _ _ (idk j o ho id2 ob g2 g3)]; exact g2, g3⟩
  · intro j o ho
    show h'.get j = none
    have h0 := hS.apart j o ho
    rw [hget]
    have : j ≠ k := by rintro rfl; rw [hk] at h0; cases h0
    rw [if_neg this, h0]
    split <;> rfl
  · intro j bj p hj hp
    by_cases e : j = k
    · subst e; rw [same] at hj; cases hj; rw [hfam]; exact hS.famh _ b _ hk hm
    · exact hS.famh j bj p (other j bj hj e).1 hp
  · intro f l hl
    rcases hlive f with h | ⟨h, h2⟩
    · exact hS.liveh f l (by rw [← h]; exact hl)
    · have hl : l'.get f = some l := hl
      rw [h2] at hl; cases hl
      subst h
      refine ⟨hS.famh k b _ hk hm, fun j hj => ?_⟩
      rw [List.mem_singleton.1 hj]; exact ⟨_, hm⟩

theorem splice_get (l xs : List Value) (o i : Nat) (h : o + xs.length ≤ l.length) :
    (l.take o ++ xs ++ l.drop (o + xs.length)).toArray[i]? = if o ≤ i ∧ i < o + xs.length then xs[i - o]? else l[i]? := by
  simp only [List.getElem?_toArray]
  by_cases c : i < o
  · rw [if_neg (by omega), List.append_assoc, List.getElem?_append_left (by simp; omega), List.getElem?_take, if_pos c]
  · by_cases c2 : i < o + xs.length
    · rw [if_pos ⟨by omega, c2⟩, List.append_assoc, List.getElem?_append_right (by simp; omega), List.getElem?_append_left (by simp; omega)]
      congr 1; simp; omega
    · rw [if_neg (by omega), List.getElem?_append_right (by simp; omega), List.getElem?_drop]
      congr 1; simp; omega

theorem run_storeCells_free (P : Program) (g o : Nat) (t : TypeId) (fz : Nat × Nat) : ∀ (vs : List Value) (i : Nat) (cur : Array Value) (w : World), w.heap[g]? = some (.cells cur t fz) → (∀ j, j < cur.size → ¬ (fz.1 ≤ j ∧ j < fz.2)) → o + i + vs.length ≤ cur.size → (∀ v ∈ vs, v.oneCell' = true) →
    (Go.storeCells ⟨g, o, none⟩ vs i).run P w = .ok () (w.setRow g (cur.toList.take (o + i) ++ vs ++ cur.toList.drop (o + i + vs.length)).toArray)
  | [], i, cur, w, hg, _, _, _ => by
    simp only [Go.storeCells, List.append_nil, List.length_nil, Nat.add_zero, List.take_append_drop, Array.toArray_toList]
    rw [setRow_self w g cur t fz hg]
    rfl
  | v :: rest, i, cur, w, hg, hfz, hl, h1 => by
    have hi : o + i < cur.size := by simp at hl; omega
    have hadd : (⟨g, o, none⟩ : Addr).add i = ⟨g, o + i, none⟩ := by unfold Addr.add; split <;> simp_all
    have hcell : w.cell? ⟨g, o + i, none⟩ = some cur[o + i] := by simp [World.cell?, hg, hi]
    have hfro : w.frozen? ⟨g, o + i, none⟩ = false := by
      have := hfz (o + i) hi
      obtain ⟨lo, hi'⟩ := fz
      simp only [World.frozen?, hg, Bool.and_eq_false_iff, decide_eq_false_iff_not]
      simp only at this
      omega
    have hst : (store ((⟨g, o, none⟩ : Addr).add i) v).run P w = .ok () (w.setRow g (cur.setIfInBounds (o + i) v)) := by
      rw [hadd, run_store P w _ v _ (h1 v (by simp)), hcell]
      simp [hfro, setCell_eq_setRow w g (o + i) cur t fz v hg]
    have ih := run_storeCells_free P g o t fz rest (i + 1) (cur.setIfInBounds (o + i) v) (w.setRow g (cur.setIfInBounds (o + i) v)) (setRow_heap w g cur _ t _ hg) (by simpa using hfz) (by simp at hl ⊢; omega) (fun x hx => h1 x (by simp [hx]))
    simp only [Go.storeCells, Sem.run_bind, hst, Result.andThen_ok, ih, setRow_setRow]
    congr 3
    have e := list_seg_step cur.toList (o + i) v rest (by simp at hl ⊢; omega)
    simpa [Array.toList_setIfInBounds, Nat.add_assoc] using e

theorem putBlk_eq (st : St) (k : Nat) (b : Blk) (t : Tr AV) (K : St → VC) : ∃ h' l', putBlk st k b t K = K ⟨st.n, st.nc, h', l', st.x⟩ ∧
    (∀ j, h'.get j = if j = k then some { b with cells := t } else if j ∈ famOf st b k then none else st.heap.get j) ∧ (∀ f, l'.get f = st.live.get f ∨ (f = b.fam ∧ l'.get f = some [k])) := by
  obtain ⟨n, nc, h, lv, x⟩ := st
  obtain ⟨sz, cells, z, zn, fam, cv, es⟩ := b
  unfold putBlk famOf
  simp only
  cases hl : lv.get fam with
  | none =>
    refine ⟨_, _, Tr.setK_eq _ _ _ _, fun j => ?_, fun f => .inl rfl⟩
    rw [Tr.get_set]
    by_cases e : k = j
    · subst e; simp
    · rw [if_neg e, if_neg (fun h => e h.symm), if_neg (by simp; exact fun h => e h.symm)]
  | some l =>
    refine ⟨_, _, (by
      show (killOthers h k l).setK k _ (fun h => lv.setK fam (some [k]) fun lv => K ⟨n, nc, h, lv, x⟩) = _
      rw [Tr.setK_eq, Tr.setK_eq]), fun j => ?_, fun f => ?_⟩
    · rw [Tr.get_set]
      by_cases e : k = j
      · subst e; simp
      · rw [if_neg e, if_neg (fun h => e h.symm), killOthers_get]
        by_cases c : j ∈ l
        · rw [if_pos ⟨c, fun h => e h.symm⟩, if_pos c]
        · rw [if_neg (fun h => c h.1), if_neg c]
    · rw [Tr.get_set]
      by_cases e : fam = f
      · rw [if_pos e]; exact .inr ⟨e.symm, rfl⟩
      · rw [if_neg e]; exact .inl rfl

theorem fam_mem (hS : StRel X K w0 E st w) {k : Nat} {b : Blk} {p : Nat × Nat} (hm : E.m[k]? = some (some p)) : ∀ j ∈ famOf st b k, ∃ q, E.m[j]? = some (some q) := by
  intro j hj
  unfold famOf at hj
  cases hl : st.live.get b.fam with
  | none => rw [hl] at hj; rw [List.mem_singleton.1 hj]; exact ⟨p, hm⟩
  | some l => rw [hl] at hj; exact (hS.liveh _ l hl).2 j hj
/-- Blocks without a place are of their own. -/
theorem hp_stored (hS : StRel X K w0 E st w) {k : Nat} {b : Blk} (hk : st.heap.get k = some b) {p : Nat × Nat} (hm : E.m[k]? = some (some p)) {h' : Tr Blk} {l' : Tr (List Nat)} {b' : Blk}
    (hget : ∀ j, h'.get j = if j = k then some b' else if j ∈ famOf st b k then none else st.heap.get j)
    (hlive : ∀ f, l'.get f = st.live.get f ∨ (f = b.fam ∧ l'.get f = some [k])) : HP E E st ⟨st.n, st.nc, h', l', st.x⟩ := by
  intro j hj
  refine ⟨hj, ?_, rfl, ?_⟩
  · show h'.get j = _
    rw [hget, if_neg (fun e => by rw [e, hm] at hj; cases hj), if_neg (fun e => by obtain ⟨q, hq⟩ := fam_mem hS hm j e; rw [hq] at hj; cases hj)]
  · rcases hlive j with h | ⟨h, _⟩
    · exact h
    · obtain ⟨q, hq⟩ := hS.famh k b p hk hm
      rw [h, hq] at hj; cases hj

/-- Some cells are stored. -/
theorem storeCells_sound (hS : StRel X K w0 E st w) {k off : Nat} {vs : List AV} {F : St → VC} (h : (storeCells st k off vs F).holds Θ E.va R)
    {xs : List Value} (hx : denL E vs = some xs) {ad : Addr} (ha : aden E ⟨.r k, off⟩ = some ad) :
    ∃ st' w', (F st').holds Θ E.va R ∧ (Go.storeCells ad xs).run X.P w = .ok () w' ∧ StRel X K w0 E st' w' ∧ HP E E st st' := by
  obtain ⟨b, hb, h⟩ := vbind_inv h
  obtain ⟨hcond, h⟩ := vif_inv h
  simp only [Bool.and_eq_true, ble_iff, decide_eq_true_eq] at hcond
  obtain ⟨hle, hone⟩ := hcond
  obtain ⟨p, hm, rfl⟩ := aden_r ha
  obtain ⟨cs, el, fr, hh, hr⟩ := blk_of hS hb hm
  have hle' : off + vs.length ≤ b.sz := by rw [lenL_eq] at hle; exact hle
  have hxl := denL_length hx
  have hroom := hr.room
  have hrun := run_storeCells_free X.P p.1 (off + p.2) el fr xs 0 cs w hh hr.free' (by rw [hxl]; omega) (denL_one (allOne_mem hone) hx)
  simp only [Nat.add_zero] at hrun
  rw [putsK_eq] at h
  obtain ⟨h', l', e, hget, hlive⟩ := putBlk_eq st k b (puts vs off b.cells) F
  rw [e] at h
  have hblk : BlkRel E { b with cells := puts vs off b.cells } p.2 (cs.toList.take (off + p.2) ++ xs ++ cs.toList.drop (off + p.2 + xs.length)).toArray fr := by
    have hsz : (cs.toList.take (off + p.2) ++ xs ++ cs.toList.drop (off + p.2 + xs.length)).toArray.size = cs.size := by
      simp only [List.size_toArray, List.length_append, List.length_take, List.length_drop, Array.length_toList]; omega
    refine ⟨by rw [hsz]; exact hr.free, by rw [hsz]; exact hr.room, fun i v hv => ?_, fun i hi => by rw [hsz]; exact hr.cap i hi, fun i v hv => ?_⟩
    · have hv' : (puts vs off b.cells).get i = some v := hv
      rw [puts_get] at hv'
      split at hv'
      · show i < b.sz; omega
      · exact hr.bnd i v hv'
    rw [cell_eq] at hv
    have hv' : (match (puts vs off b.cells).get i with | some v => some v | none => if i < b.sz then (match b.zn with | 0 => none | j + 1 => b.z[i % (j + 1)]?) else none) = some v := hv
    rw [puts_get] at hv'
    by_cases c : off ≤ i ∧ i < off + vs.length
    · rw [if_pos c] at hv'
      have hlt : i - off < vs.length := by omega
      have hg : vs[i - off]? = some vs[i - off] := List.getElem?_eq_getElem hlt
      rw [hg] at hv'
      cases hv'
      obtain ⟨y, h1, h2⟩ := denL_get hx hg
      refine ⟨y, h1, ?_⟩
      rw [splice_get _ _ _ _ (by simp; omega), if_pos (by omega), ← h2]
      congr 1; omega
    · rw [if_neg c] at hv'
      have hv2 : b.cell i = some v := by rw [cell_eq]; exact hv'
      obtain ⟨y, h1, h2⟩ := hr.cells i v hv2
      refine ⟨y, h1, ?_⟩
      rw [splice_get _ _ _ _ (by simp; omega), if_neg (by omega)]
      simpa using h2
  exact ⟨_, _, h, hrun, stored (b' := { b with cells := puts vs off b.cells }) hS hb hm hh rfl hblk hget hlive, hp_stored hS hb hm hget hlive⟩

theorem storeAt_sound (hc : CxOK X K w0) (hS : StRel X K w0 E st w) {t : TypeId} {n : Nat} (hn : X.cx.size.get t = some n) {x : AAddr} {v : AV} {F : Kt} (h : (storeAt n v st F x.off x.b).holds Θ E.va R)
    {y : Value} (hy : v.den E = some y) {ad : Addr} (ha : aden E x = some ad) :
    ∃ st' w', (F (.tuple []) st').holds Θ E.va R ∧ (Go.storeVar t ad y).run X.P w = .ok () w' ∧ StRel X K w0 E st' w' ∧ HP E E st st' := by
  obtain ⟨b, off⟩ := x
  cases b with
  | g n => exact h.elim
  | r k =>
    obtain ⟨hcond, h⟩ := vif_inv h
    have hlen : n = v.cells.length := by have := Nat.eq_of_beq_eq_true hcond; rw [lenL_eq] at this; exact this
    obtain ⟨xs, hxs, hcs⟩ := den_cells hy
    obtain ⟨st', w', h1, h2, h3, h4⟩ := storeCells_sound hS h hxs ha
    refine ⟨st', w', h1, ?_, h3, h4⟩
    have hsz : y.cells.size = n := by rw [hlen, ← denL_length hxs, ← hcs]; simp
    simp [Go.storeVar, hc.size' hn, hsz, hcs, h2]

/-! ### New blocks -/
def Env.push (E : Env) (p : Option (Nat × Nat)) : Env := { E with m := E.m ++ [p] }
theorem Env.le_push (E : Env) (p : Option (Nat × Nat)) : E.Le (E.push p) :=
  ⟨fun k q h => by show (E.m ++ [p])[k]? = _; rw [List.getElem?_append_left (List.getElem?_eq_some_iff.1 h).1]; exact h, fun _ _ h => h, .refl _, fun _ _ h => h,
   fun k h => ⟨none, by show (E.m ++ [p])[k]? = _; rw [List.getElem?_append_left (List.getElem?_eq_some_iff.1 h).1]; exact h, fun _ e => by cases e⟩⟩
theorem push_get (E : Env) (p : Option (Nat × Nat)) (k : Nat) (q : Option (Nat × Nat)) (h : (E.push p).m[k]? = some q) : (k < E.m.length ∧ E.m[k]? = some q) ∨ (k = E.m.length ∧ q = p) := by
  have h : (E.m ++ [p])[k]? = some q := h
  by_cases c : k < E.m.length
  · rw [List.getElem?_append_left c] at h; exact .inl ⟨c, h⟩
  · rw [List.getElem?_append_right (by omega)] at h
    have : k - E.m.length < 1 := by have := (List.getElem?_eq_some_iff.1 h).1; simpa using this
    have e : k = E.m.length := by omega
    subst e; simp at h
    exact .inr ⟨rfl, h.symm⟩
theorem push_new (E : Env) (p : Option (Nat × Nat)) : (E.push p).m[E.m.length]? = some p := by show (E.m ++ [p])[E.m.length]? = _; simp
theorem push_old (E : Env) (p : Option (Nat × Nat)) {k : Nat} (h : k < E.m.length) : (E.push p).m[k]? = E.m[k]? := by show (E.m ++ [p])[k]? = _; rw [List.getElem?_append_left h]
theorem hp_push (E : Env) (p : Option (Nat × Nat)) {st st' : St} (hn : E.m.length = st.n) (h1 : ∀ k, k < st.n → st'.heap.get k = st.heap.get k) (h2 : ∀ k, k < st.n → st'.x.objs.get k = st.x.objs.get k) (h3 : st'.live = st.live) : HP E (E.push p) st st' := by
  intro k hk
  have hlt := (List.getElem?_eq_some_iff.1 hk).1
  exact ⟨by rw [push_old E p hlt]; exact hk, h1 k (by omega), h2 k (by omega), by rw [h3]⟩

/-- Something new that is not yet in memory, or just came there. -/
theorem StRel.newCells (hS : StRel X K w0 E st w) {b : Blk} (hfam : b.fam = st.n) {w' : World} {p : Option (Nat × Nat)}
    (hp : (p = none ∧ w' = w ∧ b.cv = 0 ∧ ∀ i v, b.cell i = some v → okv (E.push p) v) ∨ ∃ ys el, p = some (w.heap.size, 0) ∧ w' = w.alloc (.cells ys el) ∧ BlkRel (E.push p) b 0 ys (0, 0)) :
    StRel X K w0 (E.push p) ⟨st.n + 1, st.nc, st.heap.set st.n (some b), st.live, st.x⟩ w' := by
  have hle := E.le_push p
  have hsz : w.heap.size ≤ w'.heap.size := by rcases hp with ⟨_, rfl, _⟩ | ⟨ys, el, _, rfl, _⟩ <;> simp
  have hsame : ∀ i, i < w.heap.size → w'.heap[i]? = w.heap[i]? := by
    rcases hp with ⟨_, rfl, _⟩ | ⟨ys, el, _, rfl, _⟩
    · exact fun _ _ => rfl
    · exact fun i hi => Go.RowKit.Below.heap_alloc _ _ _ hi
  have hpid : ∀ q, p = some q → q = (w.heap.size, 0) ∧ w.heap.size < w'.heap.size := by
    intro q hq
    rcases hp with ⟨h, _, _⟩ | ⟨ys, el, h, h2, _⟩
    · rw [h] at hq; cases hq
    · rw [h] at hq; cases hq; exact ⟨rfl, by rw [h2]; simp⟩
  have hget : ∀ j (bj : Blk), (st.heap.set st.n (some b)).get j = some bj → (j = st.n ∧ bj = b) ∨ (j < st.n ∧ st.heap.get j = some bj) := by
    intro j bj hj
    rw [Tr.get_set] at hj
    by_cases e : st.n = j
    · rw [if_pos e] at hj; cases hj; exact .inl ⟨e.symm, rfl⟩
    · rw [if_neg e] at hj; exact .inr ⟨(hS.lt j bj hj).1, hj⟩
  have hold : ∀ (k : Nat) (q : Nat × Nat), (E.push p).m[k]? = some (some q) → (k < st.n ∧ E.m[k]? = some (some q)) ∨ (k = st.n ∧ q = (w.heap.size, 0) ∧ w.heap.size < w'.heap.size) := by
    intro k q hq
    rcases push_get E p k _ hq with ⟨h1, h2⟩ | ⟨h1, h2⟩
    · exact .inl ⟨by rw [← hS.n_eq]; exact h1, h2⟩
    · have := hpid q h2.symm; exact .inr ⟨by rw [h1, hS.n_eq], this.1, this.2⟩
  have hkeep : ∀ (k : Nat) (q : Option (Nat × Nat)), E.m[k]? = some q → (E.push p).m[k]? = some q := fun k q hq => by rw [push_old E p (List.getElem?_eq_some_iff.1 hq).1]; exact hq
  refine ⟨by simp [Env.push, hS.n_eq], hS.c_eq, hS.z_eq, hS.a_eq, hS.o_eq, hS.klt, ?_, ?_, ?_, ?_, ?_, ?_, ?_, ?_, ?_, ?_, hS.facts, ?_, ?_⟩
  · rcases hp with ⟨_, rfl, _⟩ | ⟨ys, el, _, rfl, _⟩
    · exact hS.kept
    · exact hS.kept.alloc hS.klt' _
  · intro k q hq
    rcases hold k q hq with ⟨_, h⟩ | ⟨_, rfl, h⟩
    · have := hS.ids k q h; exact ⟨this.1, by omega⟩
    · exact ⟨fun hk => absurd (hS.klt' _ hk) (Nat.lt_irrefl _), h⟩
  · intro j bj hj
    rcases hget j bj hj with ⟨rfl, rfl⟩ | ⟨hlt, h⟩
    · exact ⟨Nat.lt_succ_self _, by rw [hfam]; exact Nat.lt_succ_self _⟩
    · have := hS.lt j bj h; exact ⟨Nat.lt_succ_of_lt this.1, Nat.lt_succ_of_lt this.2⟩
  · intro j bj hj
    rcases hget j bj hj with ⟨rfl, rfl⟩ | ⟨hlt, h⟩
    · rcases hp with ⟨hp, _, hcv, hok⟩ | ⟨ys, el, hp, hw, hb⟩
      · left; exact ⟨by rw [← hS.n_eq, push_new, hp], hcv, hok⟩
      · right
        refine ⟨w.heap.size, 0, ys, el, (0, 0), by rw [← hS.n_eq, push_new, hp], ?_, hb⟩
        rw [hw]; show (w.heap.push _)[w.heap.size]? = _; simp
    · rcases hS.blks j bj h with h0 | ⟨id, sh, c, e, fr, hm, hh, hr⟩
      · exact .inl ⟨hkeep _ _ h0.1, h0.2.1, fun i v hv => (h0.2.2 i v hv).mono hle⟩
      · exact .inr ⟨id, sh, c, e, fr, hkeep _ _ hm, by rw [hsame _ (hS.ids j _ hm).2]; exact hh, hr.mono hle⟩
  · intro k1 k2 b1 b2 id1 sh1 id2 sh2 h1 h2 m1 m2 hf
    rcases hget k1 b1 h1 with ⟨e1, f1⟩ | ⟨e1, f1⟩ <;> rcases hget k2 b2 h2 with ⟨e2, f2⟩ | ⟨e2, f2⟩
    · subst f1; subst f2; exact absurd rfl hf
    · rcases hold k1 _ m1 with ⟨h, _⟩ | ⟨_, h, _⟩
      · omega
      · rcases hold k2 _ m2 with ⟨_, h'⟩ | ⟨h', _⟩
        · have := (hS.ids k2 _ h').2; simp at h this; omega
        · omega
    · rcases hold k2 _ m2 with ⟨h, _⟩ | ⟨_, h, _⟩
      · omega
      · rcases hold k1 _ m1 with ⟨_, h'⟩ | ⟨h', _⟩
        · have := (hS.ids k1 _ h').2; simp at h this; omega
        · omega
    · rcases hold k1 _ m1 with ⟨_, m1⟩ | ⟨h, _⟩
      · rcases hold k2 _ m2 with ⟨_, m2⟩ | ⟨h, _⟩
        · exact hS.fams k1 k2 b1 b2 id1 sh1 id2 sh2 f1 f2 m1 m2 hf
        · omega
      · omega
  · intro f l hl; exact Nat.lt_succ_of_lt (hS.livelt f l hl)
  · intro j bj hj k' b2 hk' hf
    have hnew : ∀ i (bi : Blk), st.heap.get i = some bi → bi.fam ≠ st.n := fun i bi hi e => by have := (hS.lt i bi hi).2; omega
    rcases hget j bj hj with ⟨e1, f1⟩ | ⟨e1, f1⟩ <;> rcases hget k' b2 hk' with ⟨e2, f2⟩ | ⟨e2, f2⟩
    · subst e1 e2 f1
      unfold famOf
      rw [hfam]
      show st.n ∈ (Option.rec [st.n] (fun l => l) (st.live.get st.n) : List Nat)
      rcases hl : st.live.get st.n with _ | l
      · simp
      · exact absurd (hS.livelt _ _ hl) (Nat.lt_irrefl _)
    · subst f1; exact absurd (hf.trans hfam) (hnew k' b2 f2)
    · subst f2; exact absurd (hf.symm.trans hfam) (hnew j bj f1)
    · exact hS.lives j bj f1 k' b2 f2 hf
  · intro j o ho
    obtain ⟨h1, h2⟩ := hS.objs j o ho
    refine ⟨Nat.lt_succ_of_lt h1, ?_⟩
    rcases h2 with h2 | ⟨id, ob, g1, g2, g3⟩
    · exact .inl (hkeep _ _ h2)
    · exact .inr ⟨id, ob, hkeep _ _ g1, by rw [hsame _ (hS.ids j _ g1).2]; exact g2, g3.mono hle⟩
  · intro k1 k2 o1 o2 q h1 h2 m1 m2
    have l1 := (hS.objs k1 o1 h1).1
    have l2 := (hS.objs k2 o2 h2).1
    rw [push_old E p (by rw [hS.n_eq]; exact l1)] at m1
    rw [push_old E p (by rw [hS.n_eq]; exact l2)] at m2
    exact hS.oinj k1 k2 o1 o2 q h1 h2 m1 m2
  · intro j o ho
    show (st.heap.set st.n (some b)).get j = none
    have := (hS.objs j o ho).1
    rw [Tr.get_set_other _ _ (by omega)]
    exact hS.apart j o ho
  · intro j bj q hj hq
    rcases hget j bj hj with ⟨rfl, rfl⟩ | ⟨hlt, h⟩
    · rw [hfam]; exact ⟨q, hq⟩
    · rw [push_old E p (by rw [hS.n_eq]; exact hlt)] at hq
      obtain ⟨q', hq'⟩ := hS.famh j bj q h hq
      exact ⟨q', hkeep _ _ hq'⟩
  · intro f l hl
    obtain ⟨⟨q, hq⟩, h2⟩ := hS.liveh f l hl
    exact ⟨⟨q, hkeep _ _ hq⟩, fun j hj => let ⟨q, hq⟩ := h2 j hj; ⟨q, hkeep _ _ hq⟩⟩
end
end Go.Sy
