import Derived.Test.YtlcamplkgcokjaaSxN
/-! Memory: loads, stores, new blocks. -/
namespace Go.Sx
open Go.RowKit (Below)

structure CxOK (P : Program) (cx : Cx) (σ : Nat → Option Value) (B : Nat) (w0 : World) : Prop where
  iv : ∀ i k lo hi, cx.iv.get i = some (k, (lo, hi)) → ∃ n, σ i = some (.int k n) ∧ lo ≤ n ∧ n ≤ hi ∧ (Lit.int k n).wf = true
  ord : ∀ i j o, j < 64 → cx.ord.get (i * 64 + j) = some o → ∀ k n k' m, σ i = some (.int k n) → σ j = some (.int k' m) → (o = 0 ∧ n < m) ∨ (o = 1 ∧ n = m) ∨ (2 ≤ o ∧ m < n)
  eqm : ∀ t m, cx.eqm.get t = some m → P.keyTypeAt m t = true ∧ P.eqGuardType P.depth t = false ∧ m ≤ 10000 ∧ (match P.underlying t with | some (.array _ _) | some (.struct _) => true | _ => false) = true
  und : ∀ t d, cx.und.get t = some d → P.underlying t = some d
  size : ∀ t n, cx.size.get t = some n → ∃ i, P.info? t = some i ∧ i.size = n
  zero : ∀ t z, cx.zero.get t = some z → ∃ i v, P.info? t = some i ∧ i.zero = some v ∧ i.size = z.length ∧ 0 < z.length ∧ i.bytes ≤ 1048576 ∧ ∀ E, denL σ E z = some v.cells.toList
  fld : ∀ t fs, cx.und.get t = some (.struct fs) → ∀ f ∈ fs.toList, ∃ i, P.info? f.type = some i
  glob : ∀ g t, cx.glob.get g = some t → g < B ∧ ∀ i v, t.get i = some v → ∃ x, (∀ E, v.den σ E = some x) ∧ w0.cell? ⟨g, i, none⟩ = some x
  sig : ∀ i x, σ i = some x → x.oneCell' = true
  sigb : ∀ i b, σ i ≠ some (.bool b)

section
variable {P : Program} {cx : Cx} {σ : Nat → Option Value} {B : Nat} {w0 : World} {E : Env} {st : St} {w : World} {tm : Tm} {a : Act} {N : Nat}

theorem CxOK.und' (hc : CxOK P cx σ B w0) {t : TypeId} {d : TypeDesc} (h : cx.und.get t = some d) (w : World) : (underlying t).run P w = .ok d w := run_underlying (hc.und t d h) w
theorem CxOK.size' (hc : CxOK P cx σ B w0) {t : TypeId} {n : Nat} (h : cx.size.get t = some n) (w : World) : (sizeOf t).run P w = .ok n w := by
  obtain ⟨i, hi, hn⟩ := hc.size t n h
  simp [sizeOf, typeInfo, hi, hn, program, Sem.run]
theorem isAgg_sound (hc : CxOK P cx σ B w0) {t : TypeId} {g : Bool} (h : isAgg cx t = some g) (w : World) : (Go.isAgg t).run P w = .ok g w := by
  obtain ⟨d, hd, h⟩ := obind_inv h
  cases h
  simp only [Go.isAgg, Sem.run_bind, hc.und' hd, Result.andThen_ok]
  cases d <;> rfl

theorem ev_sound (hT : TmRel σ E tm a N) {x : Operand} {v : AV} (h : ev tm x = some v) : v.den σ E = some (a.eval x) := by
  cases x with
  | tmp t =>
    simp only [ev, Option.some.injEq] at h; subst h
    obtain ⟨y, h1, h2⟩ := hT.slots t
    rw [h1, ← h2]; rfl
  | const c => exact den_ofVal h
  | «global» g => simp only [ev, Option.some.injEq] at h; subst h; rfl
  | func f => simp only [ev, Option.some.injEq] at h; subst h; rfl
theorem evs_sound (hT : TmRel σ E tm a N) : ∀ {l : List Operand} {vs : List AV}, evs tm l = some vs → denL σ E vs = some (l.map a.eval)
  | [], vs, h => by simp only [evs, Option.some.injEq] at h; subst h; rfl
  | x :: r, vs, h => by
    change obind (ev tm x) (fun v => obind (evs tm r) fun vs => some (v :: vs)) = some vs at h
    obtain ⟨v, hv, h⟩ := obind_inv h
    obtain ⟨vs', hvs, h⟩ := obind_inv h
    cases h
    exact denL_cons.2 ⟨_, _, ev_sound hT hv, evs_sound hT hvs, rfl⟩
theorem evParts_sound (hT : TmRel σ E tm a N) : ∀ {l : List (Nat × Operand)} {ps : List (Nat × AV)}, evParts tm l = some ps →
    ps.length = l.length ∧ ∀ (j i : Nat) (v : AV), ps[j]? = some (i, v) → ∃ x, l[j]? = some (i, x) ∧ v.den σ E = some (a.eval x)
  | [], ps, h => by simp only [evParts, Option.some.injEq] at h; subst h; exact ⟨rfl, fun j i v hv => by simp at hv⟩
  | (i, x) :: r, ps, h => by
    simp only [evParts] at h
    obtain ⟨v, hv, h⟩ := obind_inv h
    obtain ⟨vs', hvs, h⟩ := obind_inv h
    cases h
    obtain ⟨h1, h2⟩ := evParts_sound hT hvs
    refine ⟨by simp [h1], fun j i' v' hv' => ?_⟩
    cases j with
    | zero => simp at hv'; obtain ⟨rfl, rfl⟩ := hv'; exact ⟨x, by simp, ev_sound hT hv⟩
    | succ j => obtain ⟨y, e1, e2⟩ := h2 j i' v' (by simpa using hv'); exact ⟨y, by simpa using e1, e2⟩

theorem add_eq (b o n : Nat) : (⟨b, o, none⟩ : Addr).add n = ⟨b, o + n, none⟩ := by unfold Addr.add; split <;> simp_all

theorem cell_sound (hc : CxOK P cx σ B w0) (hS : StRel σ B w0 E st w) {b : Bid} {tr : Tr AV} (hb : blkOf cx st b = some tr) {o : Nat} {ad : Addr} (ha : aden E ⟨b, o⟩ = some ad) :
    ad.spot = none ∧ ∀ {j : Nat} {v : AV}, tr.get (o + j) = some v → ∃ x, v.den σ E = some x ∧ w.cell? (ad.add j) = some x := by
  cases b with
  | g n =>
    simp only [aden, Option.some.injEq] at ha; subst ha
    obtain ⟨hlt, hg⟩ := hc.glob n tr hb
    refine ⟨rfl, fun {j v} hv => ?_⟩
    obtain ⟨x, h1, h2⟩ := hg _ v hv
    refine ⟨x, h1 E, ?_⟩
    rw [add_eq]
    have := hS.below.block n hlt
    simp only [World.cell?, this] at h2 ⊢
    exact h2
  | r k =>
    obtain ⟨bl, hbl, h⟩ := obind_inv hb
    cases h
    obtain ⟨id, sh, cs, el, fr, hm, hh, hr⟩ := hS.blks k bl hbl
    simp only [aden, hm, Option.some.injEq] at ha; subst ha
    refine ⟨rfl, fun {j v} hv => ?_⟩
    obtain ⟨x, h1, h2⟩ := hr.cells _ v hv
    refine ⟨x, h1, ?_⟩
    rw [add_eq, show o + sh + j = o + j + sh by omega]
    simp [World.cell?, hh, h2]

theorem gets_sound {tr : Tr AV} : ∀ (n o : Nat) {l : List AV}, gets tr n o = some l → l.length = n ∧ ∀ j v, l[j]? = some v → tr.get (o + j) = some v
  | 0, o, l, h => by
    change some [] = some l at h
    cases h; exact ⟨rfl, fun j v hv => by simp at hv⟩
  | n + 1, o, l, h => by
    change obind (tr.get o) (fun v => obind (gets tr n (o + 1)) fun vs => some (v :: vs)) = some l at h
    obtain ⟨v, hv, h⟩ := obind_inv h
    obtain ⟨vs, hvs, h⟩ := obind_inv h
    cases h
    obtain ⟨h1, h2⟩ := gets_sound n (o + 1) hvs
    refine ⟨by simp [h1], fun j u hu => ?_⟩
    cases j with
    | zero => simp at hu; subst hu; exact hv
    | succ j => rw [show o + (j + 1) = o + 1 + j by omega]; exact h2 j u (by simpa using hu)

theorem cells_sound (hc : CxOK P cx σ B w0) (hS : StRel σ B w0 E st w) {b : Bid} {tr : Tr AV} (hb : blkOf cx st b = some tr) {o : Nat} {ad : Addr} (ha : aden E ⟨b, o⟩ = some ad) {n : Nat} {l : List AV} (h : gets tr n o = some l) :
    ∃ xs, denL σ E l = some xs ∧ xs.length = n ∧ (Go.loadCells ad n).run P w = .ok xs.toArray w ∧ ∀ (j : Nat) (y : Value), xs[j]? = some y → w.cell? (ad.add j) = some y := by
  obtain ⟨h1, h2⟩ := gets_sound n o h
  have key : ∀ j v, l[j]? = some v → ∃ x, v.den σ E = some x ∧ w.cell? (ad.add j) = some x := fun j v hv => (cell_sound hc hS hb ha).2 (h2 j v hv)
  let xs : List Value := l.map fun v => (v.den σ E).getD undef
  have hxs : denL σ E l = some xs := denL_of (by simp [xs]) fun i v hv => by
    obtain ⟨x, h3, _⟩ := key i v hv
    exact ⟨x, h3, by simp [xs, hv, h3]⟩
  have hlen : xs.length = n := by simp [xs, h1]
  have hcells : ∀ (j : Nat) (x : Value), xs[j]? = some x → w.cell? (ad.add j) = some x := by
   intro j x hx
   have : ∃ v, l[j]? = some v := by
     have : j < l.length := by have := (List.getElem?_eq_some_iff.1 hx).1; simpa [xs] using this
     exact ⟨_, List.getElem?_eq_getElem this⟩
   obtain ⟨v, hv⟩ := this
   obtain ⟨y, h3, h4⟩ := key j v hv
   have : xs[j]? = some y := by simp [xs, hv, h3]
   rw [hx] at this; cases this
   exact h4
  refine ⟨xs, hxs, hlen, ?_, hcells⟩
  rw [← hlen]
  exact run_loadCells_list _ _ _ hcells

theorem loadVar_sound (hc : CxOK P cx σ B w0) (hS : StRel σ B w0 E st w) {t : TypeId} {x : AAddr} {v : AV} (h : loadVar cx st t x = some v) {ad : Addr} (ha : aden E x = some ad) :
    ∃ y, v.den σ E = some y ∧ (Go.loadVar t ad).run P w = .ok y w := by
  obtain ⟨g, hg, h⟩ := obind_inv h
  obtain ⟨tr, htr, h⟩ := obind_inv h
  have hi := isAgg_sound hc hg
  cases g with
  | false =>
    change tr.get x.off = some v at h
    obtain ⟨y, h1, h2⟩ := (cell_sound hc hS htr (o := x.off) ha).2 (j := 0) (v := v) (by simpa using h)
    refine ⟨y, h1, ?_⟩
    have h3 : w.cell? ad = some y := by simpa [Addr.add] using h2
    simp [Go.loadVar, hi, h3]
  | true =>
    change obind (cx.size.get t) (fun n => obind (gets tr n x.off) fun l => some (.agg l)) = some v at h
    obtain ⟨n, hn, h⟩ := obind_inv h
    obtain ⟨l, hl, h⟩ := obind_inv h
    cases h
    obtain ⟨xs, h1, h2, h3, _⟩ := cells_sound hc hS htr (o := x.off) ha hl
    refine ⟨.agg xs.toArray, by simp [AV.den, h1], ?_⟩
    simp [Go.loadVar, hi, hc.size' hn, h3]

theorem den_one1 (hs : ∀ i x, σ i = some x → x.oneCell' = true) {v : AV} {x : Value} (h : one1 v = true) (hx : v.den σ E = some x) : x.oneCell' = true := by
  cases v with
  | agg l => cases h
  | tuple l => cases h
  | opq i => exact hs i x hx
  | ptr a => cases a <;> simp only [AV.den, Option.some.injEq, Option.map_eq_some_iff] at hx <;> first | (subst hx; rfl) | (obtain ⟨_, _, rfl⟩ := hx; rfl)
  | slice a n c =>
    cases a with
    | none =>
      cases c with
      | k c => simp only [AV.den] at hx; split at hx <;> cases hx; rfl
      | u _ _ => cases hx
    | some a =>
      simp only [AV.den] at hx
      split at hx
      · split at hx
        · cases hx; rfl
        · cases hx
      · cases hx
  | func f a b =>
    simp only [AV.den] at hx
    split at hx
    · cases hx; rfl
    · cases hx
  | iface t v => simp only [AV.den, Option.map_eq_some_iff] at hx; obtain ⟨_, _, rfl⟩ := hx; rfl
  | map a => cases a <;> simp only [AV.den, Option.some.injEq] at hx <;> first | (subst hx; rfl) | cases hx
  | _ => simp only [AV.den, Option.some.injEq] at hx; subst hx; rfl
theorem allOne_mem : ∀ {l : List AV}, allOne l = true → ∀ v ∈ l, one1 v = true
  | [], _, v, hv => by cases hv
  | u :: r, h, v, hv => by
    change (Bool.rec false (allOne r) (one1 u) : Bool) = true at h
    cases hu : one1 u with
    | false => rw [hu] at h; cases h
    | true =>
      rw [hu] at h
      cases hv with
      | head => exact hu
      | tail _ hv => exact allOne_mem h v hv
theorem denL_one (hs : ∀ i x, σ i = some x → x.oneCell' = true) : ∀ {l : List AV} {xs : List Value}, (∀ v ∈ l, one1 v = true) → denL σ E l = some xs → ∀ x ∈ xs, x.oneCell' = true
  | [], xs, _, h, x, hx => by rw [denL_nil.1 h] at hx; cases hx
  | v :: r, xs, h1, h, x, hx => by
    obtain ⟨p, q, hp, hq, rfl⟩ := denL_cons.1 h
    cases hx with
    | head => exact den_one1 hs (h1 v (by simp)) hp
    | tail _ hx => exact denL_one hs (fun u hu => h1 u (by simp [hu])) hq x hx

theorem killOthers_get (k : Nat) : ∀ (l : List Nat) (h : Tr Blk) (j : Nat), (killOthers h k l).get j = if j ∈ l ∧ j ≠ k then none else h.get j
  | [], h, j => by simp [killOthers]
  | i :: r, h, j => by
    simp only [killOthers]
    cases e : Nat.beq i k with
    | true =>
      have : i = k := Nat.eq_of_beq_eq_true e
      simp only [bif_true]
      rw [killOthers_get k r h j]
      by_cases c : j ∈ r ∧ j ≠ k
      · rw [if_pos c, if_pos (by simp [c.1, c.2])]
      · rw [if_neg c, if_neg]
        rintro ⟨h1, h2⟩
        rcases List.mem_cons.1 h1 with h1 | h1
        · exact h2 (h1.trans this)
        · exact c ⟨h1, h2⟩
    | false =>
      have : i ≠ k := Nat.ne_of_beq_eq_false e
      simp only [bif_false]
      rw [killOthers_get k r _ j, Tr.get_set]
      by_cases c : j ∈ r ∧ j ≠ k
      · rw [if_pos c, if_pos (by simp [c.1, c.2])]
      · rw [if_neg c]
        by_cases c2 : i = j
        · subst c2; rw [if_pos rfl, if_pos (by simp [this])]
        · rw [if_neg c2, if_neg]
          rintro ⟨h1, h2⟩
          rcases List.mem_cons.1 h1 with h1 | h1
          · exact c2 h1.symm
          · exact c ⟨h1, h2⟩

theorem setRow_other (w : World) (g : Nat) (cs : Array Value) {i : Nat} (h : i ≠ g) : (w.setRow g cs).heap[i]? = w.heap[i]? := by
  simp only [World.setRow, Array.getElem?_modify]
  rw [if_neg (by omega)]
theorem setRow_size (w : World) (g : Nat) (cs : Array Value) : (w.setRow g cs).heap.size = w.heap.size := by simp [World.setRow]
theorem below_setRow {w : World} (h : Below B w0 w) {g : Nat} (hg : B ≤ g) (cs : Array Value) : Below B w0 (w.setRow g cs) :=
  h.trans ⟨rfl, rfl, rfl, by rw [setRow_size]; exact Nat.le_refl _, fun k hk => setRow_other _ _ _ (by omega)⟩

/-- What a store of some cells into block k leaves. -/
theorem stored (hS : StRel σ B w0 E st w) {k : Nat} {b : Blk} (hk : st.heap.get k = some b) {id sh : Nat} {cs cs' : Array Value} {el : TypeId} {fr : Nat × Nat} (hm : E.m[k]? = some (id, sh))
    (hh : w.heap[id]? = some (.cells cs el fr)) {t : Tr AV} (hr : BlkRel σ E ⟨b.sz, t, b.fam, b.cv, b.es⟩ sh cs' fr) {h' : Tr Blk} {l' : Tr (List Nat)}
    (hget : ∀ j, h'.get j = if j = k then some ⟨b.sz, t, b.fam, b.cv, b.es⟩ else if j ∈ famOf st b k then none else st.heap.get j)
    (hlive : ∀ f, l'.get f = st.live.get f ∨ (f = b.fam ∧ l'.get f = some [k])) :
    StRel σ B w0 E ⟨st.n, st.nc, h', l'⟩ (w.setRow id cs') := by
  have other : ∀ j bj, h'.get j = some bj → j ≠ k → st.heap.get j = some bj ∧ bj.fam ≠ b.fam := by
    intro j bj hj hne
    rw [hget, if_neg hne] at hj
    split at hj
    · cases hj
    · rename_i hnot
      exact ⟨hj, fun e => hnot (hS.lives k b hk j bj hj e)⟩
  have same : h'.get k = some ⟨b.sz, t, b.fam, b.cv, b.es⟩ := by rw [hget, if_pos rfl]
  refine ⟨hS.n_eq, hS.c_eq, hS.base, below_setRow hS.below (hS.ids k _ hm).1 _, ?_, ?_, ?_, ?_, ?_, ?_⟩
  · intro i p hp; rw [setRow_size]; exact hS.ids i p hp
  · intro j bj hj
    by_cases e : j = k
    · subst e; rw [same] at hj; cases hj; exact hS.lt j b hk
    · exact hS.lt j bj (other j bj hj e).1
  · intro j bj hj
    by_cases e : j = k
    · subst e; rw [same] at hj; cases hj
      exact ⟨id, sh, cs', el, fr, hm, setRow_heap w id cs cs' el fr hh, hr⟩
    · obtain ⟨h1, h2⟩ := other j bj hj e
      obtain ⟨id2, sh2, cs2, el2, fr2, hm2, hh2, hr2⟩ := hS.blks j bj h1
      have hne : id2 ≠ id := hS.fams j k bj b id2 sh2 id sh h1 hk hm2 hm h2
      exact ⟨id2, sh2, cs2, el2, fr2, hm2, by rw [setRow_other _ _ _ hne]; exact hh2, hr2⟩
  · intro k1 k2 b1 b2 id1 sh1 id2 sh2 h1 h2 m1 m2 hf
    have old : ∀ j bj, h'.get j = some bj → ∃ bj', st.heap.get j = some bj' ∧ bj'.fam = bj.fam := by
      intro j bj hj
      by_cases e : j = k
      · subst e; rw [same] at hj; cases hj; exact ⟨b, hk, rfl⟩
      · exact ⟨bj, (other j bj hj e).1, rfl⟩
    obtain ⟨b1', e1, f1⟩ := old k1 b1 h1
    obtain ⟨b2', e2, f2⟩ := old k2 b2 h2
    exact hS.fams k1 k2 b1' b2' id1 sh1 id2 sh2 e1 e2 m1 m2 (by rw [f1, f2]; exact hf)
  · intro f l hl
    rcases hlive f with h | ⟨h, _⟩
    · exact hS.livelt f l (by rw [← h]; exact hl)
    · rw [h]; exact (hS.lt k b hk).2
  · intro j bj hj k' b' hk' hf
    by_cases e : j = k
    · subst e; rw [same] at hj; cases hj
      by_cases e' : k' = j
      · subst e'
        unfold famOf
        rcases hlive b.fam with h | ⟨_, h⟩
        · show k' ∈ (Option.rec [k'] (fun l => l) (l'.get b.fam) : List Nat)
          rw [h]; exact hS.lives k' b hk k' b hk rfl
        · show k' ∈ (Option.rec [k'] (fun l => l) (l'.get b.fam) : List Nat)
          rw [h]; simp
      · exact absurd hf (other k' b' hk' e').2
    · obtain ⟨h1, h2⟩ := other j bj hj e
      have hne : k' ≠ k := by
        rintro rfl
        rw [same] at hk'; cases hk'; exact h2 hf.symm
      obtain ⟨h3, _⟩ := other k' b' hk' hne
      have := hS.lives j bj h1 k' b' h3 hf
      unfold famOf at this ⊢
      rcases hlive bj.fam with h | ⟨h, _⟩
      · show k' ∈ (Option.rec [j] (fun l => l) (l'.get bj.fam) : List Nat)
        rw [h]; exact this
      · exact absurd h h2

theorem splice_get (l xs : List Value) (o i : Nat) (h : o + xs.length ≤ l.length) :
    (l.take o ++ xs ++ l.drop (o + xs.length)).toArray[i]? = if o ≤ i ∧ i < o + xs.length then xs[i - o]? else l[i]? := by
  simp only [List.getElem?_toArray]
  by_cases c : i < o
  · rw [if_neg (by omega), List.append_assoc, List.getElem?_append_left (by simp; omega), List.getElem?_take, if_pos c]
  · by_cases c2 : i < o + xs.length
    · rw [if_pos ⟨by omega, c2⟩, List.append_assoc, List.getElem?_append_right (by simp; omega), List.getElem?_append_left (by simp; omega)]
      congr 1; simp; omega
    · rw [if_neg (by omega), List.getElem?_append_right (by simp; omega), List.getElem?_drop]
      congr 1; simp; omega
theorem den_cells (hs : ∀ i x, σ i = some x → x.oneCell' = true) {v : AV} {y : Value} (h : v.den σ E = some y) : ∃ xs, denL σ E v.cells = some xs ∧ y.cells.toList = xs := by
  have key : v.cells = [v] → (∀ c, y ≠ .agg c) → ∃ xs, denL σ E v.cells = some xs ∧ y.cells.toList = xs := by
    intro h1 h2
    refine ⟨[y], ?_, ?_⟩
    · rw [h1]; exact denL_cons.2 ⟨y, [], h, rfl, rfl⟩
    · cases y <;> first | rfl | exact absurd rfl (h2 _)
  cases v with
  | agg l =>
    simp only [AV.den, Option.map_eq_some_iff] at h
    obtain ⟨xs, hxs, rfl⟩ := h
    exact ⟨xs, hxs, by simp [Value.cells]⟩
  | tuple l =>
    refine key rfl ?_
    simp only [AV.den, Option.map_eq_some_iff] at h
    obtain ⟨xs, hxs, rfl⟩ := h
    intro c hc; cases hc
  | _ => exact key rfl fun c hc => by subst hc; have := den_one1 hs (E := E) rfl h; cases this

theorem storeCells_sound {β : Type} (hc : CxOK P cx σ B w0) (hS : StRel σ B w0 E st w) {k off : Nat} {vs : List AV} {K : St → Option β} {r : β} (h : storeCells st k off vs K = some r)
    {xs : List Value} (hx : denL σ E vs = some xs) {ad : Addr} (ha : aden E ⟨.r k, off⟩ = some ad) :
    ∃ st' w', K st' = some r ∧ (Go.storeCells ad xs).run P w = .ok () w' ∧ StRel σ B w0 E st' w' := by
  obtain ⟨b, hb, h⟩ := obind_inv h
  obtain ⟨hcond, h⟩ := bif_some h
  simp only [Bool.and_eq_true] at hcond
  obtain ⟨hle, hone⟩ := hcond
  obtain ⟨id, sh, cs, el, fr, hm, hh, hr⟩ := hS.blks k b hb
  simp only [aden, hm, Option.some.injEq] at ha; subst ha
  have hle' : off + vs.length ≤ b.sz := by have := Nat.le_of_ble_eq_true hle; rw [lenL_eq] at this; exact this
  have hxl := denL_length hx
  have hroom := hr.room
  obtain rfl := hr.free
  have hrun := run_storeCells_at P id (off + sh) el xs 0 cs w hh (by rw [hxl]; omega) (denL_one hc.sig (allOne_mem hone) hx)
  simp only [Nat.add_zero] at hrun
  rw [putsK_eq] at h
  have hblk : BlkRel σ E ⟨b.sz, puts vs off b.cells, b.fam, b.cv, b.es⟩ sh (cs.toList.take (off + sh) ++ xs ++ cs.toList.drop (off + sh + xs.length)).toArray (0, 0) := by
    have hsz : (cs.toList.take (off + sh) ++ xs ++ cs.toList.drop (off + sh + xs.length)).toArray.size = cs.size := by
      simp only [List.size_toArray, List.length_append, List.length_take, List.length_drop, Array.length_toList]; omega
    refine ⟨rfl, by rw [hsz]; exact hr.room, fun i v hv => ?_, fun i hi => by rw [hsz]; exact hr.cap i hi, fun i v hv => ?_⟩
    · have hv' : (puts vs off b.cells).get i = some v := hv
      rw [puts_get] at hv'
      split at hv'
      · show i < b.sz; omega
      · exact hr.bnd i v hv'
    have hv' : (puts vs off b.cells).get i = some v := hv
    rw [puts_get] at hv'
    by_cases c : off ≤ i ∧ i < off + vs.length
    · rw [if_pos c] at hv'
      obtain ⟨y, h1, h2⟩ := denL_get hx hv'
      refine ⟨y, h1, ?_⟩
      rw [splice_get _ _ _ _ (by simp; omega), if_pos (by omega), ← h2]
      congr 1; omega
    · rw [if_neg c] at hv'
      obtain ⟨y, h1, h2⟩ := hr.cells i v hv'
      refine ⟨y, h1, ?_⟩
      rw [splice_get _ _ _ _ (by simp; omega), if_neg (by omega)]
      simpa using h2
  cases hl : st.live.get b.fam with
  | none =>
    rw [hl] at h
    change st.heap.setK k _ _ = some r at h
    rw [Tr.setK_eq] at h
    refine ⟨_, _, h, hrun, stored hS hb hm hh hblk (fun j => ?_) (fun f => .inl rfl)⟩
    rw [Tr.get_set]
    by_cases e : k = j
    · subst e; simp
    · rw [if_neg e, if_neg (fun h => e h.symm)]
      have : famOf st b k = [k] := by unfold famOf; rw [hl]
      rw [this, if_neg (by simp; exact fun h => e h.symm)]
  | some l =>
    rw [hl] at h
    change (killOthers st.heap k l).setK k _ _ = some r at h
    rw [Tr.setK_eq] at h
    refine ⟨_, _, h, hrun, stored hS hb hm hh hblk (fun j => ?_) (fun f => ?_)⟩
    · rw [Tr.get_set]
      by_cases e : k = j
      · subst e; simp
      · rw [if_neg e, if_neg (fun h => e h.symm), killOthers_get]
        have : famOf st b k = l := by unfold famOf; rw [hl]
        rw [this]
        by_cases c : j ∈ l
        · rw [if_pos ⟨c, fun h => e h.symm⟩, if_pos c]
        · rw [if_neg (fun h => c h.1), if_neg c]
    · rw [Tr.get_set]
      by_cases e : b.fam = f
      · rw [if_pos e]; exact .inr ⟨e.symm, rfl⟩
      · rw [if_neg e]; exact .inl rfl

theorem storeVar_sound {β : Type} (hc : CxOK P cx σ B w0) (hS : StRel σ B w0 E st w) {t : TypeId} {x : AAddr} {v : AV} {K : St → Option β} {r : β} (h : storeVar cx st t x v K = some r)
    {y : Value} (hy : v.den σ E = some y) {ad : Addr} (ha : aden E x = some ad) :
    ∃ st' w', K st' = some r ∧ (Go.storeVar t ad y).run P w = .ok () w' ∧ StRel σ B w0 E st' w' := by
  obtain ⟨b, off⟩ := x
  cases b with
  | g n => cases h
  | r k =>
    obtain ⟨n, hn, h⟩ := obind_inv h
    obtain ⟨hcond, h⟩ := bif_some h
    have hlen : n = v.cells.length := by have := Nat.eq_of_beq_eq_true hcond; rw [lenL_eq] at this; exact this
    obtain ⟨xs, hxs, hcs⟩ := den_cells hc.sig hy
    obtain ⟨st', w', h1, h2, h3⟩ := storeCells_sound hc hS h hxs ha
    refine ⟨st', w', h1, ?_, h3⟩
    have hsz : y.cells.size = n := by rw [hlen, ← denL_length hxs, ← hcs]; simp
    simp [Go.storeVar, hc.size' hn, hsz, hcs, h2]

theorem newBlk_sound {β : Type} (hS : StRel σ B w0 E st w) {cs : List AV} {K : Nat → St → Option β} {r : β} {cv es : Nat} (h : newBlk st cs K cv es = some r) {xs : List Value} (hx : denL σ E cs = some xs)
    {ys : Array Value} (hpre : ∀ (i : Nat) (y : Value), xs[i]? = some y → ys[i]? = some y) (hlen : xs.length ≤ ys.size) (el : TypeId) (hcv : ∀ i, cv = i + 1 → ∃ c, E.caps[i]? = some c ∧ c * es ≤ ys.size) :
    ∃ n st' E', K n st' = some r ∧ E.Le E' ∧ aden E' ⟨.r n, 0⟩ = some ⟨w.heap.size, 0, none⟩ ∧ E'.caps = E.caps ∧ StRel σ B w0 E' st' (w.alloc (.cells ys el)) := by
  unfold newBlk at h
  rw [putsK_eq, Tr.setK_eq] at h
  refine ⟨_, _, ⟨E.m ++ [(w.heap.size, 0)], E.caps⟩, h, ⟨⟨_, rfl⟩, ⟨[], by simp⟩⟩, ?_, rfl, ?_⟩
  · simp [aden, ← hS.n_eq]
  have hle : E.Le ⟨E.m ++ [(w.heap.size, 0)], E.caps⟩ := ⟨⟨_, rfl⟩, ⟨[], by simp⟩⟩
  have hB : B ≤ w.heap.size := Nat.le_trans hS.base hS.below.size
  have hold : ∀ (k : Nat) (p : Nat × Nat), (E.m ++ [(w.heap.size, 0)])[k]? = some p → (k < st.n ∧ E.m[k]? = some p) ∨ (k = st.n ∧ p = (w.heap.size, 0)) := by
    intro k p hp
    by_cases c : k < E.m.length
    · rw [List.getElem?_append_left c] at hp; exact .inl ⟨by rw [← hS.n_eq]; exact c, hp⟩
    · rw [List.getElem?_append_right (by omega)] at hp
      have : k - E.m.length < 1 := by have := (List.getElem?_eq_some_iff.1 hp).1; simpa using this
      have e : k = E.m.length := by omega
      subst e; simp at hp
      exact .inr ⟨hS.n_eq, hp.symm⟩
  have hget : ∀ j (bj : Blk), (st.heap.set st.n (some ⟨lenL cs, puts cs 0 .nil, st.n, cv, es⟩)).get j = some bj → (j = st.n ∧ bj = ⟨lenL cs, puts cs 0 .nil, st.n, cv, es⟩) ∨ (j < st.n ∧ st.heap.get j = some bj) := by
    intro j bj hj
    rw [Tr.get_set] at hj
    by_cases e : st.n = j
    · rw [if_pos e] at hj; cases hj; exact .inl ⟨e.symm, rfl⟩
    · rw [if_neg e] at hj; exact .inr ⟨(hS.lt j bj hj).1, hj⟩
  refine ⟨by simp [hS.n_eq], hS.c_eq, hS.base, hS.below.alloc hB _, ?_, ?_, ?_, ?_, ?_, ?_⟩
  · intro k p hp
    rw [World.size_alloc]
    rcases hold k p hp with ⟨_, h⟩ | ⟨_, rfl⟩
    · have := hS.ids k p h; exact ⟨this.1, by omega⟩
    · exact ⟨hB, by simp⟩
  · intro j bj hj
    rcases hget j bj hj with ⟨rfl, rfl⟩ | ⟨hlt, h⟩
    · exact ⟨Nat.lt_succ_self _, Nat.lt_succ_self _⟩
    · have := hS.lt j bj h; exact ⟨Nat.lt_succ_of_lt this.1, Nat.lt_succ_of_lt this.2⟩
  · intro j bj hj
    rcases hget j bj hj with ⟨rfl, rfl⟩ | ⟨hlt, h⟩
    · refine ⟨w.heap.size, 0, ys, el, (0, 0), ?_, ?_, rfl, ?_, ?_, hcv, ?_⟩
      · show (E.m ++ [(w.heap.size, 0)])[st.n]? = _; rw [← hS.n_eq]; simp
      · show (w.heap.push _)[w.heap.size]? = _; simp
      · show lenL cs + 0 ≤ ys.size; rw [lenL_eq, ← denL_length hx]; simpa using hlen
      · intro i v hv
        have hv' : (puts cs 0 .nil).get i = some v := hv
        rw [puts_get] at hv'
        show i < lenL cs
        rw [lenL_eq]
        split at hv'
        · omega
        · cases hv'
      · intro i v hv
        have hv' : (puts cs 0 .nil).get i = some v := hv
        rw [puts_get] at hv'
        by_cases c : 0 ≤ i ∧ i < 0 + cs.length
        · rw [if_pos c] at hv'
          obtain ⟨y, h1, h2⟩ := denL_get hx hv'
          exact ⟨y, den_mono hle _ h1, by simpa using hpre _ _ h2⟩
        · rw [if_neg c] at hv'; cases hv'
    · obtain ⟨id, sh, c, e, fr, hm, hh, hr⟩ := hS.blks j bj h
      refine ⟨id, sh, c, e, fr, hle.m_get hm, ?_, hr.free, hr.room, hr.bnd, hr.cap, fun i v hv => ?_⟩
      · have := (hS.ids j _ hm).2
        rw [Below.heap_alloc _ _ _ this]; exact hh
      · obtain ⟨y, h1, h2⟩ := hr.cells i v hv; exact ⟨y, den_mono hle _ h1, h2⟩
  · intro k1 k2 b1 b2 id1 sh1 id2 sh2 h1 h2 m1 m2 hf
    rcases hget k1 b1 h1 with ⟨e1, f1⟩ | ⟨e1, f1⟩ <;> rcases hget k2 b2 h2 with ⟨e2, f2⟩ | ⟨e2, f2⟩
    · subst f1; subst f2; exact absurd rfl hf
    · rcases hold k1 _ m1 with ⟨h, _⟩ | ⟨_, h⟩
      · omega
      · rcases hold k2 _ m2 with ⟨_, h'⟩ | ⟨h', _⟩
        · have := (hS.ids k2 _ h').2; simp at h this; omega
        · omega
    · rcases hold k2 _ m2 with ⟨h, _⟩ | ⟨_, h⟩
      · omega
      · rcases hold k1 _ m1 with ⟨_, h'⟩ | ⟨h', _⟩
        · have := (hS.ids k1 _ h').2; simp at h this; omega
        · omega
    · rcases hold k1 _ m1 with ⟨_, m1⟩ | ⟨h, _⟩
      · rcases hold k2 _ m2 with ⟨_, m2⟩ | ⟨h, _⟩
        · exact hS.fams k1 k2 b1 b2 id1 sh1 id2 sh2 f1 f2 m1 m2 hf
        · omega
      · omega
  · intro f l hl; exact Nat.lt_succ_of_lt (hS.livelt f l hl)
  · intro j bj hj k' b' hk' hf
    have hnew : ∀ i (bi : Blk), st.heap.get i = some bi → bi.fam ≠ st.n := fun i bi hi e => by have := (hS.lt i bi hi).2; omega
    rcases hget j bj hj with ⟨e1, f1⟩ | ⟨e1, f1⟩ <;> rcases hget k' b' hk' with ⟨e2, f2⟩ | ⟨e2, f2⟩
    · subst e1 e2 f1
      show st.n ∈ (Option.rec [st.n] (fun l => l) (st.live.get st.n) : List Nat)
      rcases hl : st.live.get st.n with _ | l
      · simp
      · exact absurd (hS.livelt _ _ hl) (Nat.lt_irrefl _)
    · subst f1; exact absurd hf (hnew k' b' f2)
    · subst f2; exact absurd hf.symm (hnew j bj f1)
    · exact hS.lives j bj f1 k' b' f2 hf
end
end Go.Sx
