import Derived.Test.YtlcamplkgcokjaaSxU
/-! len, append, copy. -/
namespace Go.Sx
open Go.RowKit (Below)
section
variable {P : Program} {cx : Cx} {σ : Nat → Option Value} {B : Nat} {w0 : World} {E : Env} {st : St} {w : World} {tm : Tm} {a : Act} {N : Nat} {β : Type} {k : Kt β} {r : β} {o : Oper}

theorem StRel.drew (hS : StRel σ B w0 E st w) : StRel σ B w0 E st w.drew :=
  ⟨hS.n_eq, hS.c_eq, hS.base, hS.below.drew, hS.ids, hS.lt, hS.blks, hS.fams, hS.livelt, hS.lives⟩
theorem StRel.newCap (hS : StRel σ B w0 E st w) (c : Nat) : StRel σ B w0 ⟨E.m, E.caps ++ [c]⟩ ⟨st.n, Nat.succ st.nc, st.heap, st.live⟩ w := by
  have hle : E.Le ⟨E.m, E.caps ++ [c]⟩ := ⟨⟨[], by simp⟩, ⟨_, rfl⟩⟩
  refine ⟨hS.n_eq, by simp [hS.c_eq], hS.base, hS.below, hS.ids, hS.lt, ?_, hS.fams, hS.livelt, hS.lives⟩
  intro k b hk
  obtain ⟨id, sh, cs, el, fr, hm, hh, hr⟩ := hS.blks k b hk
  refine ⟨id, sh, cs, el, fr, hm, hh, hr.free, hr.room, hr.bnd, fun i hi => ?_, fun i v hv => ?_⟩
  · obtain ⟨c', h1, h2⟩ := hr.cap i hi; exact ⟨c', hle.c_get h1, h2⟩
  · obtain ⟨y, h1, h2⟩ := hr.cells i v hv; exact ⟨y, den_mono hle _ h1, h2⟩

theorem lenOf_sound {x : AV} {m : Nat} (h : lenOf x = some m) {y : Value} (hy : x.den σ E = some y) : ∃ ad c, y = .slice ad m c := by
  unfold lenOf at h
  split at h
  · cases h
    obtain ⟨ad, cp, e, _⟩ := den_slice' hy
    exact ⟨ad, cp, e⟩
  · cases h
theorem cellsOfSlice_sound (hc : CxOK P cx σ B w0) (hS : StRel σ B w0 E st w) {sz n : Nat} {x : AV} {l : List AV} (h : cellsOfSlice cx st sz n x = some l) {y : Value} (hy : x.den σ E = some y) :
    ∃ xs, denL σ E l = some xs ∧ (Builtin.firstCells sz n y).run P w = .ok xs.toArray w ∧ ((xs.length = n * sz ∧ ∃ ad p c, y = .slice (some ad) p c ∧ ∀ (j : Nat) (z : Value), xs[j]? = some z → w.cell? (ad.add j) = some z) ∨ (xs = [] ∧ ∃ p c, y = .slice none p c)) := by
  unfold cellsOfSlice at h
  split at h
  · rename_i p _ _
    obtain ⟨tr, htr, h⟩ := obind_inv h
    obtain ⟨ad, cp, rfl, hn⟩ := den_slice' hy
    cases ad with
    | none => cases hn
    | some ad =>
      have had : aden E p = some ad := by
        simp only [AV.den] at hy
        split at hy
        · split at hy
          · rename_i h1 _ _
            simp only [Option.some.injEq, Value.slice.injEq] at hy
            rw [h1]; exact congrArg some hy.1
          · cases hy
        · cases hy
      obtain ⟨xs, h1, h2, h3, h4⟩ := cells_sound hc hS htr (o := p.off) (by simpa using had) h
      exact ⟨xs, h1, by simpa [Builtin.firstCells] using h3, .inl ⟨h2, ad, _, _, rfl, h4⟩⟩
  · cases h
    obtain ⟨ad, cp, rfl, hn⟩ := den_slice' hy
    cases ad with
    | some _ => cases hn
    | none => exact ⟨[], rfl, by simp [Builtin.firstCells], .inr ⟨rfl, _, _, rfl⟩⟩
  · cases h

theorem growBy_le (n : Nat) : ∀ (f c : Nat), Builtin.growBy n f c ≤ 2 ^ f * (c + 192)
  | 0, c => by simp [Builtin.growBy]
  | f + 1, c => by
    simp only [Builtin.growBy]
    split
    · have : 1 ≤ 2 ^ (f + 1) := Nat.one_le_two_pow
      have := Nat.mul_le_mul_right (c + 192) this
      omega
    · have h := growBy_le n f (c + (c + 768) / 4)
      have h2 : 2 ^ (f + 1) = 2 ^ f * 2 := Nat.pow_succ 2 f
      rw [h2, Nat.mul_assoc]
      exact Nat.le_trans h (Nat.mul_le_mul_left _ (by omega))
theorem nextcap_le {need c : Nat} (h : c < need) (hn : need ≤ 65536) : Builtin.nextslicecap need c ≤ 2097152 := by
  unfold Builtin.nextslicecap
  split
  · omega
  · split
    · omega
    · have := growBy_le need 4 c; omega

/-- The run of an append of one slice to another. -/
theorem run_append (hc : CxOK P cx σ B w0) {t u e eu : TypeId} {sz n m cap cx2 : Nat} {z : List AV} {ad xa : Option Addr} {ty : TypeId} {old new : List Value}
    (ht : P.underlying t = some (.slice e)) (hu : P.underlying u = some (.slice eu)) (hz : cx.zero.get e = some z) (hs : cx.size.get e = some sz) (hneed : n + m ≤ 65536)
    (hnew : (Builtin.firstCells sz m (.slice xa m cx2)).run P w = .ok new.toArray w) (hold : (Builtin.firstCells sz n (.slice ad n cap)).run P w.drew = .ok old.toArray w.drew)
    (hnew' : (Builtin.firstCells sz m (.slice xa m cx2)).run P w.drew = .ok new.toArray w.drew) :
    (n + m ≤ cap → ∀ w', (match ad with | some p => (Go.storeCells (p.add (n * sz)) new).run P w = .ok () w' | none => w' = w) →
      (Builtin.append_ #[t, u] ty #[.slice ad n cap, .slice xa m cx2]).run P w = .ok (.slice ad (n + m) cap) w') ∧
    (¬ n + m ≤ cap → ∃ c rest, n + m ≤ c ∧ rest.size = (c - (n + m)) * sz ∧
      (Builtin.append_ #[t, u] ty #[.slice ad n cap, .slice xa m cx2]).run P w = .ok (.slice (some ⟨w.heap.size, 0, none⟩) (n + m) c) (w.drew.alloc (.cells ((old ++ new).toArray ++ rest) e))) := by
  obtain ⟨ie, zv, h1, h2, h3, h3', h4, h5⟩ := hc.zero e z hz
  obtain ⟨ie', hie, hsz⟩ := hc.size e sz hs
  rw [h1] at hie; cases hie
  have hzl := denL_length (h5 ⟨[], []⟩)
  constructor
  · intro hle w' hw'
    cases ad with
    | none =>
      subst hw'
      simp [Builtin.append_, run_underlying ht, run_underlying hu, hc.size' hs, Builtin.lenOf, hle, hnew]
    | some p =>
      simp [Builtin.append_, run_underlying ht, run_underlying hu, hc.size' hs, Builtin.lenOf, hle, hnew, hw']
  · intro hgt
    have hcap : cap < n + m := by omega
    have hnc := nextcap_le hcap hneed
    have hb : ¬ (Builtin.nextslicecap (n + m) cap * ie.bytes > 2 ^ 48) := by
      have : Builtin.nextslicecap (n + m) cap * ie.bytes ≤ 2097152 * 1048576 := Nat.mul_le_mul hnc h4
      omega
    have hb' : ¬ (281474976710656 < Builtin.nextslicecap (n + m) cap * ie.bytes) := by simpa using hb
    have hmax' : ¬ (9223372036854775807 < (n : Int) + (m : Int)) := by omega
    have hf : (Question.appendCap (n + m) cap e).forced = false := rfl
    have happ : ∀ Z : Array Value, old.toArray ++ (new.toArray ++ Z) = (old ++ new).toArray ++ Z := fun Z => by apply Array.ext'; simp
    refine ⟨(Question.appendCap (n + m) cap e).cut (w.tape w.drawn (.appendCap (n + m) cap e)), Builtin.zeroCells zv.cells ((Question.appendCap (n + m) cap e).cut (w.tape w.drawn (.appendCap (n + m) cap e)) - (n + m)), ?_, ?_, ?_⟩
    · simp only [Question.cut]; omega
    · have : zv.cells.size = sz := by rw [← hsz, h3, ← hzl]; simp
      simp [Builtin.zeroCells, this]
    · simp [Builtin.append_, run_underlying ht, run_underlying hu, hc.size' hs, Builtin.lenOf, hgt, typeInfo, h1, hb', hmax', hf, hold, hnew', zeroValue, h2, newRow, happ]
theorem cutTr_get (n : Nat) : ∀ (t : Tr AV) (s j : Nat), (cutTr t n s).get j = if s ≤ j ∧ j < s + n then none else t.get j := by
  induction n with
  | zero => intro t s j; show t.get j = _; rw [if_neg (by omega)]
  | succ n ih =>
    intro t s j
    show (cutTr (t.set s none) n (Nat.succ s)).get j = _
    rw [ih, Tr.get_set]
    have e1 : Nat.succ s = s + 1 := rfl
    rw [e1]
    by_cases c : s + 1 ≤ j ∧ j < s + 1 + n
    · rw [if_pos c, if_pos (by omega)]
    · rw [if_neg c]
      by_cases c2 : s = j
      · rw [if_pos c2, if_pos (by omega)]
      · rw [if_neg c2, if_neg (by omega)]

/-- A block that may be one with an elder one. -/
theorem shared (hS : StRel σ B w0 E st w) {k : Nat} {b : Blk} (hk : st.heap.get k = some b) {id sh : Nat} (hm : E.m[k]? = some (id, sh)) {w2 : World} {id2 sh2 c2 es : Nat} {start : Nat} {all : List AV} {xs : List Value}
    (hx : denL σ E all = some xs) (hst : start ≤ b.sz) (hB : B ≤ id2) (hid2 : id2 < w2.heap.size) (hsize : w.heap.size ≤ w2.heap.size) (hbel : Below B w0 w2)
    (hoth : ∀ (j : Nat), j ≠ id → j < w.heap.size → w2.heap[j]? = w.heap[j]?)
    (hnew : ∀ (j : Nat) (bj : Blk) (p : Nat × Nat), st.heap.get j = some bj → bj.fam ≠ b.fam → E.m[j]? = some p → p.1 ≠ id2)
    (hid : ∀ (cs : Array Value) (el : TypeId) (fr : Nat × Nat), w.heap[id]? = some (.cells cs el fr) → ∃ cs', w2.heap[id]? = some (.cells cs' el fr) ∧ cs'.size = cs.size ∧ ∀ i, i < start → cs'[i + sh]? = cs[i + sh]?)
    {cs2 : Array Value} {el2 : TypeId} (hh2 : w2.heap[id2]? = some (.cells cs2 el2 (0, 0))) (hroom : xs.length + sh2 ≤ cs2.size) (hcells : ∀ (i : Nat) (y : Value), xs[i]? = some y → cs2[i + sh2]? = some y) (hcap : c2 * es + sh2 ≤ cs2.size)
    {h' : Tr Blk} (hget : ∀ j, h'.get j = if j = st.n then some ⟨lenL all, puts all 0 .nil, b.fam, Nat.succ st.nc, es⟩ else if j = k then some ⟨start, cutTr b.cells (b.sz - start) start, b.fam, b.cv, b.es⟩ else if j ∈ famOf st b k then none else st.heap.get j) :
    StRel σ B w0 ⟨E.m ++ [(id2, sh2)], E.caps ++ [c2]⟩ ⟨Nat.succ st.n, Nat.succ st.nc, h', st.live.set b.fam (some [k, st.n])⟩ w2 := by
  have hle : E.Le ⟨E.m ++ [(id2, sh2)], E.caps ++ [c2]⟩ := ⟨⟨_, rfl⟩, ⟨_, rfl⟩⟩
  have hkn : k < st.n := (hS.lt k b hk).1
  have hold : ∀ (k : Nat) (p : Nat × Nat), (E.m ++ [(id2, sh2)])[k]? = some p → (k < st.n ∧ E.m[k]? = some p) ∨ (k = st.n ∧ p = (id2, sh2)) := by
    intro k p hp
    by_cases c : k < E.m.length
    · rw [List.getElem?_append_left c] at hp; exact .inl ⟨by rw [← hS.n_eq]; exact c, hp⟩
    · rw [List.getElem?_append_right (by omega)] at hp
      have : k - E.m.length < 1 := by have := (List.getElem?_eq_some_iff.1 hp).1; simpa using this
      have e : k = E.m.length := by omega
      subst e; simp at hp
      exact .inr ⟨hS.n_eq, hp.symm⟩
  have hmn : (E.m ++ [(id2, sh2)])[st.n]? = some (id2, sh2) := by rw [← hS.n_eq]; simp
  have kinds : ∀ j bj, h'.get j = some bj → (j = st.n ∧ bj = ⟨lenL all, puts all 0 .nil, b.fam, Nat.succ st.nc, es⟩) ∨ (j = k ∧ bj = ⟨start, cutTr b.cells (b.sz - start) start, b.fam, b.cv, b.es⟩) ∨
      (j ≠ k ∧ j < st.n ∧ st.heap.get j = some bj ∧ bj.fam ≠ b.fam) := by
    intro j bj hj
    rw [hget] at hj
    split at hj
    · cases hj; exact .inl ⟨by assumption, rfl⟩
    · split at hj
      · cases hj; exact .inr (.inl ⟨by assumption, rfl⟩)
      · split at hj
        · cases hj
        · rename_i h1 h2 h3
          exact .inr (.inr ⟨h2, (hS.lt j bj hj).1, hj, fun e => h3 (hS.lives k b hk j bj hj e)⟩)
  have fam_of : ∀ j bj, h'.get j = some bj → bj.fam = b.fam ∨ (st.heap.get j = some bj ∧ bj.fam ≠ b.fam) := by
    intro j bj hj
    rcases kinds j bj hj with ⟨_, rfl⟩ | ⟨_, rfl⟩ | ⟨_, _, h1, h2⟩
    · exact .inl rfl
    · exact .inl rfl
    · exact .inr ⟨h1, h2⟩
  refine ⟨by simp [hS.n_eq], by simp [hS.c_eq], hS.base, hbel, ?_, ?_, ?_, ?_, ?_, ?_⟩
  · intro j p hp
    rcases hold j p hp with ⟨_, h⟩ | ⟨_, rfl⟩
    · have := hS.ids j p h; exact ⟨this.1, Nat.lt_of_lt_of_le this.2 hsize⟩
    · exact ⟨hB, hid2⟩
  · intro j bj hj
    have hf := (hS.lt k b hk).2
    rcases kinds j bj hj with ⟨rfl, rfl⟩ | ⟨rfl, rfl⟩ | ⟨_, h0, h1, h2⟩
    · exact ⟨Nat.lt_succ_self _, Nat.lt_succ_of_lt hf⟩
    · exact ⟨Nat.lt_succ_of_lt hkn, Nat.lt_succ_of_lt hf⟩
    · have := hS.lt j bj h1; exact ⟨Nat.lt_succ_of_lt this.1, Nat.lt_succ_of_lt this.2⟩
  · intro j bj hj
    rcases kinds j bj hj with ⟨e0, e1⟩ | ⟨e0, e1⟩ | ⟨_, h0, h1, h2⟩
    · subst e0 e1
      refine ⟨id2, sh2, cs2, el2, (0, 0), hmn, hh2, rfl, ?_, ?_, ?_, ?_⟩
      · show lenL all + sh2 ≤ _; rw [lenL_eq, ← denL_length hx]; exact hroom
      · intro i v hv
        have hv' : (puts all 0 .nil).get i = some v := hv
        rw [puts_get] at hv'
        show i < lenL all
        rw [lenL_eq]
        split at hv'
        · omega
        · cases hv'
      · intro i hi
        have : i = st.nc := by have : Nat.succ st.nc = i + 1 := hi; omega
        subst this
        exact ⟨c2, by rw [← hS.c_eq]; simp, hcap⟩
      · intro i v hv
        have hv' : (puts all 0 .nil).get i = some v := hv
        rw [puts_get] at hv'
        by_cases c : 0 ≤ i ∧ i < 0 + all.length
        · rw [if_pos c] at hv'
          obtain ⟨y, h1, h2⟩ := denL_get hx hv'
          exact ⟨y, den_mono hle _ h1, by simpa using hcells _ _ h2⟩
        · rw [if_neg c] at hv'; cases hv'
    · subst e0 e1
      obtain ⟨id', sh', cs, el, fr, hm', hh, hr⟩ := hS.blks _ b hk
      rw [hm] at hm'; cases hm'
      obtain ⟨cs', e1, e2, e3⟩ := hid cs el fr hh
      have hget' : ∀ i v, (cutTr b.cells (b.sz - start) start).get i = some v → i < start ∧ b.cells.get i = some v := by
        intro i v hv
        rw [cutTr_get] at hv
        split at hv
        · cases hv
        · have := hr.bnd i v hv; exact ⟨by omega, hv⟩
      refine ⟨id, sh, cs', el, fr, hle.m_get hm, e1, hr.free, ?_, fun i v hv => (hget' i v hv).1, fun i hi => ?_, fun i v hv => ?_⟩
      · have := hr.room; show start + sh ≤ cs'.size; omega
      · obtain ⟨c, g1, g2⟩ := hr.cap i hi; exact ⟨c, hle.c_get g1, by show c * b.es + sh ≤ _; omega⟩
      · obtain ⟨g1, g2⟩ := hget' i v hv
        obtain ⟨y, g3, g4⟩ := hr.cells i v g2
        exact ⟨y, den_mono hle _ g3, by rw [e3 i g1]; exact g4⟩
    · obtain ⟨id', sh', cs, el, fr, hm', hh, hr⟩ := hS.blks j bj h1
      have hne : id' ≠ id := hS.fams j k bj b id' sh' id sh h1 hk hm' hm h2
      refine ⟨id', sh', cs, el, fr, hle.m_get hm', by rw [hoth id' hne (hS.ids j _ hm').2]; exact hh, hr.free, hr.room, hr.bnd, fun i hi => ?_, fun i v hv => ?_⟩
      · obtain ⟨c, g1, g2⟩ := hr.cap i hi; exact ⟨c, hle.c_get g1, g2⟩
      · obtain ⟨y, g1, g2⟩ := hr.cells i v hv; exact ⟨y, den_mono hle _ g1, g2⟩
  · intro k1 k2 b1 b2 id1 sh1 id2' sh2' h1 h2 m1 m2 hf
    have two : ∀ (j1 j2 : Nat) (c1 c2 : Blk) (i1 s1 i2 s2 : Nat), h'.get j1 = some c1 → h'.get j2 = some c2 → (E.m ++ [(id2, sh2)])[j1]? = some (i1, s1) → (E.m ++ [(id2, sh2)])[j2]? = some (i2, s2) → c1.fam = b.fam → c2.fam ≠ b.fam → i1 ≠ i2 := by
      intro j1 j2 c1 c2 i1 s1 i2 s2 g1 g2 n1 n2 f1 f2
      rcases kinds j2 c2 g2 with ⟨_, e⟩ | ⟨_, e⟩ | ⟨_, q1, q2, q3⟩
      · subst e; exact absurd rfl f2
      · subst e; exact absurd rfl f2
      · rcases hold j2 _ n2 with ⟨_, n2⟩ | ⟨e, _⟩
        · rcases kinds j1 c1 g1 with ⟨e1, _⟩ | ⟨e1, _⟩ | ⟨_, _, _, q⟩
          · rw [e1, hmn] at n1; cases n1
            exact fun e => hnew j2 c2 _ q2 q3 n2 e.symm
          · rw [e1, hle.m_get hm] at n1; cases n1
            exact fun e => hS.fams j2 _ c2 b i2 s2 id sh q2 hk n2 hm q3 e.symm
          · exact absurd f1 q
        · omega
    rcases fam_of k1 b1 h1 with f1 | ⟨g1, f1⟩ <;> rcases fam_of k2 b2 h2 with f2 | ⟨g2, f2⟩
    · exact absurd (f1.trans f2.symm) hf
    · exact two k1 k2 b1 b2 id1 sh1 id2' sh2' h1 h2 m1 m2 f1 f2
    · exact fun e => two k2 k1 b2 b1 id2' sh2' id1 sh1 h2 h1 m2 m1 f2 f1 e.symm
    · rcases hold k1 _ m1 with ⟨_, m1⟩ | ⟨e, _⟩
      · rcases hold k2 _ m2 with ⟨_, m2⟩ | ⟨e, _⟩
        · exact hS.fams k1 k2 b1 b2 id1 sh1 id2' sh2' g1 g2 m1 m2 hf
        · have := (hS.lt k2 b2 g2).1; omega
      · have := (hS.lt k1 b1 g1).1; omega
  · intro f l hl
    rw [Tr.get_set] at hl
    split at hl
    · rename_i e; rw [← e]; exact Nat.lt_succ_of_lt (hS.lt k b hk).2
    · exact Nat.lt_succ_of_lt (hS.livelt f l hl)
  · intro j bj hj k' b' hk' hf
    show k' ∈ (Option.rec [j] (fun l => l) ((st.live.set b.fam (some [k, st.n])).get bj.fam) : List Nat)
    rcases fam_of j bj hj with f1 | ⟨g1, f1⟩
    · rw [f1, Tr.get_set_same]
      show k' ∈ [k, st.n]
      rcases kinds k' b' hk' with ⟨e, _⟩ | ⟨e, _⟩ | ⟨_, _, _, q⟩
      · simp [e]
      · simp [e]
      · exact absurd (hf.trans f1) q
    · rw [Tr.get_set_other _ _ (fun e => f1 e.symm)]
      rcases fam_of k' b' hk' with f2 | ⟨g2, f2⟩
      · exact absurd (hf.symm.trans f2) f1
      · exact hS.lives j bj g1 k' b' g2 hf
end
end Go.Sx
