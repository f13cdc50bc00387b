import Derived.Test.YtlcamplkgcokjaaSxV
/-! len, append, copy: what they leave. -/
namespace Go.Sx
open Go.RowKit (Below)
section
variable {P : Program} {cx : Cx} {σ : Nat → Option Value} {B : Nat} {w0 : World} {E : Env} {st : St} {w : World} {tm : Tm} {a : Act} {N : Nat} {β : Type} {k : Kt β} {r : β} {o : Oper}

theorem den_slice_inv {x : Option AAddr} {n : Nat} {c : Cap} {y : Value} (h : (AV.slice x n c).den σ E = some y) :
    (x = none ∧ n = 0 ∧ c = .k 0 ∧ y = .slice none 0 0) ∨ ∃ p ad cp, x = some p ∧ aden E p = some ad ∧ cden E c = some cp ∧ n ≤ cp ∧ y = .slice (some ad) n cp := by
  cases x with
  | none =>
    cases c with
    | k c =>
      simp only [AV.den] at h
      split at h
      · rename_i e; cases h; exact .inl ⟨rfl, e.1, by rw [e.2], rfl⟩
      · cases h
    | u _ _ => cases h
  | some p =>
    simp only [AV.den] at h
    split at h
    · rename_i ad cp h1 h2
      split at h
      · rename_i h3; cases h; exact .inr ⟨p, ad, cp, rfl, h1, h2, h3, rfl⟩
      · cases h
    · cases h

theorem lenNil {x : AV} {m : Nat} (h : lenOf x = some m) {p c : Nat} (hx : x.den σ E = some (.slice none p c)) : m = 0 := by
  unfold lenOf at h
  split at h
  · cases h
    rcases den_slice_inv hx with ⟨_, e2, _, _⟩ | ⟨_, _, _, _, _, _, _, e⟩
    · exact e2
    · cases e
  · cases h

/-- What comes of an append. -/
def AppOK (P : Program) (σ : Nat → Option Value) (B : Nat) (w0 : World) (E : Env) (w : World) (s : Sem Value) (v : AV) (st' : St) : Prop :=
  ∃ E' x w', E.Le E' ∧ StRel σ B w0 E' st' w' ∧ v.den σ E' = some x ∧ s.run P w = .ok x w'

theorem cap_arith (n m c sz : Nat) (h : n + m ≤ c) : c * sz ≤ n * sz + m * sz + (c - (n + m)) * sz := by
  rw [← Nat.add_mul, ← Nat.add_mul]
  exact Nat.mul_le_mul_right _ (by omega)

theorem appNew_sound (hS : StRel σ B w0 E st w) {sz n m : Nat} {old new : List AV} {xo xn : List Value} {e : TypeId} {s : Sem Value} (h : appNew st k sz n m (old ++ new) = some r)
    (hxo : denL σ E old = some xo) (hxn : denL σ E new = some xn) (hlo : xo.length = n * sz) (hln : xn.length = m * sz) {c : Nat} {rest : Array Value} (h1 : n + m ≤ c) (h2 : rest.size = (c - (n + m)) * sz)
    (h3 : s.run P w = .ok (.slice (some ⟨w.heap.size, 0, none⟩) (n + m) c) (w.drew.alloc (.cells ((xo ++ xn).toArray ++ rest) e))) :
    ∃ v st', k v st' = some r ∧ AppOK P σ B w0 E w s v st' := by
  unfold appNew at h
  have hle : E.Le ⟨E.m, E.caps ++ [c]⟩ := ⟨⟨[], by simp⟩, ⟨_, rfl⟩⟩
  obtain ⟨b, st', E', g1, g2, g3, g4, g5⟩ := newBlk_sound (hS.drew.newCap c) h (denL_append (denL_mono hle _ hxo) (denL_mono hle _ hxn))
    (ys := (xo ++ xn).toArray ++ rest) (fun i y hy => by
      have := (List.getElem?_eq_some_iff.1 hy).1
      rw [Array.getElem?_append_left (by simpa using this)]; simpa using hy) (by simp) e (fun i hi => by
      have : i = st.nc := by omega
      subst this
      refine ⟨c, by simp [← hS.c_eq], ?_⟩
      simp only [Array.size_append, List.size_toArray, List.length_append, hlo, hln, h2]
      exact cap_arith n m c sz h1)
  refine ⟨_, _, g1, E', _, _, hle.trans g2, g5, ?_, h3⟩
  have hcapE : E'.caps[st.nc]? = some c := by rw [g4]; simp [← hS.c_eq]
  simp only [AV.den, g3, cden, hcapE, natAdd]
  rw [if_pos (Nat.zero_le _), Nat.sub_zero]
  simp only []
  rw [if_pos h1]; rfl

theorem xAppend_sound (hc : CxOK P cx σ B w0) (hS : StRel σ B w0 E st w) {s x : AV} {ys yx : Value} {t u e eu ty : TypeId} (h : xAppend cx st k x e s = some r) (hs : s.den σ E = some ys) (hx : x.den σ E = some yx)
    (ht : P.underlying t = some (.slice e)) (hu : P.underlying u = some (.slice eu)) :
    ∃ v st', k v st' = some r ∧ AppOK P σ B w0 E w (Builtin.append_ #[t, u] ty #[ys, yx]) v st' := by
  unfold xAppend at h
  split at h
  · rename_i sa n c
    obtain ⟨z, hz, h⟩ := obind_inv h
    obtain ⟨sz, hsz, h⟩ := obind_inv h
    obtain ⟨m, hm, h⟩ := obind_inv h
    obtain ⟨new, hnew, h⟩ := obind_inv h
    obtain ⟨old, hold, h⟩ := obind_inv h
    obtain ⟨hcond, h⟩ := bif_some h
    have hbig := Nat.le_of_ble_eq_true hcond
    rw [natMul, natAdd] at hbig
    have hneed : n + m ≤ 65536 := by
      have : (n + m) * 1 ≤ (n + m) * (sz + 1) := Nat.mul_le_mul_left _ (by omega)
      have h2 : (n + m) * (sz + 1) ≤ 65536 := hbig
      omega
    obtain ⟨xad, xc, rfl⟩ := lenOf_sound hm hx
    obtain ⟨xn, hxn, hrn, hln⟩ := cellsOfSlice_sound hc hS hnew hx
    obtain ⟨xo, hxo, hro, hlo⟩ := cellsOfSlice_sound hc hS hold hs
    obtain ⟨xn', hxn', hrn', _⟩ := cellsOfSlice_sound hc hS.drew hnew hx
    rw [hxn] at hxn'; cases hxn'
    obtain ⟨xo', hxo', hro', _⟩ := cellsOfSlice_sound hc hS.drew hold hs
    rw [hxo] at hxo'; cases hxo'
    have hm0 : xn.length = m * sz := by
      rcases hln with ⟨h1, _⟩ | ⟨h1, p, cc, h2⟩
      · exact h1
      · rw [h2] at hx
        have := lenNil hm hx
        subst this; simp [h1]
    have hallden := denL_append hxo hxn
    rcases den_slice_inv hs with ⟨rfl, rfl, rfl, rfl⟩ | ⟨p, ad, cp, rfl, had, hcp, hncp, rfl⟩
    · -- the nil slice
      obtain ⟨hA, hB⟩ := run_append (ty := ty) hc ht hu hz hsz hneed hrn hro' hrn'
      have hxo0 : xo = [] := by
        rcases hlo with ⟨h1, _, _, _, h2, _⟩ | ⟨h1, _⟩
        · cases h2
        · exact h1
      obtain ⟨hle, h⟩ | ⟨hgt, h⟩ : (0 + m ≤ 0 ∧ appIn st k sz 0 m 0 new none = some r) ∨ (¬ 0 + m ≤ 0 ∧ appNew st k sz 0 m (old ++ new) = some r) := by
        change bif_ (Nat.ble (0 + m) 0) _ _ = some r at h
        by_cases c : 0 + m ≤ 0
        · have : Nat.ble (0 + m) 0 = true := by simpa using c
          rw [this] at h; exact .inl ⟨c, h⟩
        · have : Nat.ble (0 + m) 0 = false := by cases e : Nat.ble (0 + m) 0 with | false => rfl | true => exact absurd (Nat.le_of_ble_eq_true e) c
          rw [this] at h; exact .inr ⟨c, h⟩
      · have hm00 : m = 0 := by omega
        subst hm00
        exact ⟨_, _, h, E, _, w, .refl E, hS, by simp [AV.den], hA hle w rfl⟩
      · obtain ⟨cc, rest, h1, h2, h3⟩ := hB hgt
        exact appNew_sound hS h hxo hxn (by rw [hxo0]; simp) hm0 h1 h2 h3
    · have hlo' : xo.length = n * sz ∧ ∀ (j : Nat) (z : Value), xo[j]? = some z → w.cell? (ad.add j) = some z := by
        rcases hlo with ⟨h1, ad', _, _, h2, h3⟩ | ⟨_, _, _, h2⟩
        · cases h2; exact ⟨h1, h3⟩
        · cases h2
      obtain ⟨hlen, hcell⟩ := hlo'
      obtain ⟨hA, hB⟩ := run_append (ty := ty) hc ht hu hz hsz hneed hrn hro' hrn'
      cases c with
      | k cc =>
        simp only [cden, Option.some.injEq] at hcp
        subst hcp
        obtain ⟨hle, h⟩ | ⟨hgt, h⟩ : (n + m ≤ cc ∧ appIn st k sz n m cc new (some p) = some r) ∨ (¬ n + m ≤ cc ∧ appNew st k sz n m (old ++ new) = some r) := by
          change bif_ (Nat.ble (n + m) cc) _ _ = some r at h
          by_cases c : n + m ≤ cc
          · have : Nat.ble (n + m) cc = true := by simpa using c
            rw [this] at h; exact .inl ⟨c, h⟩
          · have : Nat.ble (n + m) cc = false := by cases e : Nat.ble (n + m) cc with | false => rfl | true => exact absurd (Nat.le_of_ble_eq_true e) c
            rw [this] at h; exact .inr ⟨c, h⟩
        · obtain ⟨b, off⟩ := p
          cases b with
          | g _ => cases h
          | r b =>
            have hadd := aden_add had (n * sz)
            obtain ⟨st', w', g1, g2, g3⟩ := storeCells_sound hc hS h hxn hadd
            refine ⟨_, _, g1, E, _, w', .refl E, g3, ?_, hA hle w' g2⟩
            simp only [AV.den, had, cden, natAdd]
            rw [if_pos hle]
        · obtain ⟨c2, rest, h1, h2, h3⟩ := hB hgt
          exact appNew_sound hS h hxo hxn hlen hm0 h1 h2 h3
      | u i sub =>
        obtain ⟨b, off⟩ := p
        cases b with
        | g _ => cases h
        | r id =>
          change obind (st.heap.get id) _ = some r at h
          obtain ⟨b, hb, h⟩ := obind_inv h
          obtain ⟨hcond2, h⟩ := bif_some h
          simp only [Bool.and_eq_true] at hcond2
          obtain ⟨k1, k2, k3, k4, k5⟩ := hcond2
          have k1 := Nat.eq_of_beq_eq_true k1
          have k2 := Nat.eq_of_beq_eq_true k2
          have k3 := Nat.eq_of_beq_eq_true k3
          have k5 := Nat.le_of_ble_eq_true k5
          rw [natMul] at k3
          rw [natAdd, natMul] at k5
          obtain ⟨idr, sh, cs, el, fr, hmid, hh, hr⟩ := hS.blks id b hb
          simp only [aden, hmid, Option.some.injEq] at had
          subst had
          obtain ⟨c0, hc0, hroom⟩ := hr.cap i k1
          have hsub : sub ≤ c0 ∧ cp = c0 - sub := by
            simp only [cden, hc0] at hcp
            split at hcp
            · cases hcp; exact ⟨by assumption, rfl⟩
            · cases hcp
          have hfr : fr = (0, 0) := hr.free
          subst hfr
          unfold appU at h
          rw [Tr.setK_eq, putsK_eq, Tr.setK_eq] at h
          have hget : ∀ j, (((killOthers st.heap id (famOf st b id)).set id (some ⟨Nat.add off (Nat.mul n sz), cutTr b.cells (Nat.sub b.sz (Nat.add off (Nat.mul n sz))) (Nat.add off (Nat.mul n sz)), b.fam, b.cv, b.es⟩)).set st.n
              (some ⟨lenL (old ++ new), puts (old ++ new) 0 .nil, b.fam, Nat.succ st.nc, sz⟩)).get j =
              if j = st.n then some ⟨lenL (old ++ new), puts (old ++ new) 0 .nil, b.fam, Nat.succ st.nc, sz⟩ else if j = id then some ⟨off + n * sz, cutTr b.cells (b.sz - (off + n * sz)) (off + n * sz), b.fam, b.cv, b.es⟩
              else if j ∈ famOf st b id then none else st.heap.get j := by
            intro j
            rw [Tr.get_set, Tr.get_set]
            by_cases e1 : st.n = j
            · subst e1; simp
            · rw [if_neg e1, if_neg (show ¬ j = st.n from fun h => e1 h.symm)]
              by_cases e2 : id = j
              · subst e2; rw [if_pos rfl, if_pos rfl]; rfl
              · rw [if_neg e2, if_neg (show ¬ j = id from fun h => e2 h.symm), killOthers_get]
                by_cases e3 : j ∈ famOf st b id
                · rw [if_pos ⟨e3, fun h => e2 h.symm⟩, if_pos e3]
                · rw [if_neg (fun h => e3 h.1), if_neg e3]
          have hids := hS.ids id _ hmid
          have hden : ∀ (id2 sh2 c2 : Nat), n + m ≤ c2 → (AV.slice (some ⟨.r st.n, 0⟩) (Nat.add n m) (.u st.nc 0)).den σ ⟨E.m ++ [(id2, sh2)], E.caps ++ [c2]⟩ = some (.slice (some ⟨id2, sh2, none⟩) (n + m) c2) := by
            intro id2 sh2 c2 hc2
            have e1 : (E.m ++ [(id2, sh2)])[st.n]? = some (id2, sh2) := by rw [← hS.n_eq]; simp
            have e2 : (E.caps ++ [c2])[st.nc]? = some c2 := by rw [← hS.c_eq]; simp
            simp only [AV.den, aden, e1, cden, e2, natAdd]
            rw [if_pos (Nat.zero_le _), Nat.sub_zero]
            simp only []
            rw [if_pos hc2, Nat.zero_add]
          by_cases hin : n + m ≤ cp
          · -- there was room: the same block
            have hfit : off + sh + n * sz + m * sz ≤ cs.size := by
              have : (sub + n + m) * sz ≤ c0 * sz := Nat.mul_le_mul_right _ (by omega)
              rw [Nat.add_mul, Nat.add_mul] at this
              rw [k2] at hroom; omega
            have hst := run_storeCells_at P idr (off + sh + n * sz) el xn 0 cs w hh (by rw [hm0]; omega) (denL_one hc.sig (allOne_mem k4) hxn)
            simp only [Nat.add_zero] at hst
            have hadd : (⟨idr, off + sh, none⟩ : Addr).add (n * sz) = ⟨idr, off + sh + n * sz, none⟩ := add_eq _ _ _
            have hrun := hA hin _ (by simp only []; rw [hadd]; exact hst)
            have hsz2 : (cs.toList.take (off + sh + n * sz) ++ xn ++ cs.toList.drop (off + sh + n * sz + xn.length)).toArray.size = cs.size := by
              simp only [List.size_toArray, List.length_append, List.length_take, List.length_drop, Array.length_toList]; omega
            have hspl : ∀ i, (cs.toList.take (off + sh + n * sz) ++ xn ++ cs.toList.drop (off + sh + n * sz + xn.length)).toArray[i]? = if off + sh + n * sz ≤ i ∧ i < off + sh + n * sz + xn.length then xn[i - (off + sh + n * sz)]? else cs[i]? := by
              intro i; rw [splice_get _ _ _ _ (by simp; omega)]; simp
            refine ⟨_, _, h, ⟨E.m ++ [(idr, off + sh)], E.caps ++ [cp]⟩, _, _, ⟨⟨_, rfl⟩, ⟨_, rfl⟩⟩, ?_, hden idr (off + sh) cp hin, hrun⟩
            refine shared hS hb hmid hallden k5 hids.1 (by rw [setRow_size]; exact hids.2) (by rw [setRow_size]; exact Nat.le_refl _) (below_setRow hS.below hids.1 _) (fun j hj _ => setRow_other _ _ _ hj)
              (fun j bj q hj hf hq => hS.fams j id bj b q.1 q.2 idr sh hj hb hq hmid hf) (fun cs1 el1 fr1 h1 => ?_) (setRow_heap w idr cs _ el (0, 0) hh) ?_ ?_ ?_ hget
            · rw [hh] at h1; cases h1
              refine ⟨_, setRow_heap w idr cs _ el (0, 0) hh, hsz2, fun i hi => ?_⟩
              rw [hspl, if_neg (by omega)]
            · rw [hsz2]; simp only [List.length_append, hlen, hm0]; omega
            · intro i y hy
              rw [hspl]
              by_cases c : i < n * sz
              · rw [if_neg (by omega)]
                rw [List.getElem?_append_left (by omega)] at hy
                have h5 := hcell i y hy
                rw [add_eq] at h5
                simp only [World.cell?, hh] at h5
                rw [← h5]; simp; congr 1; omega
              · rw [List.getElem?_append_right (by omega)] at hy
                have h5 := (List.getElem?_eq_some_iff.1 hy).1
                rw [if_pos (by omega), ← hy]; congr 1; omega
            · rw [hsz2]
              have : (cp + sub) * sz = c0 * sz := by congr 1; omega
              rw [Nat.add_mul] at this
              rw [k2] at hroom; omega
          · -- a new one
            obtain ⟨c2, rest, h1, h2, h3⟩ := hB hin
            have hszr : ((xo ++ xn).toArray ++ rest).size = n * sz + m * sz + (c2 - (n + m)) * sz := by simp only [Array.size_append, List.size_toArray, List.length_append, hlen, hm0, h2]
            have hBw : B ≤ w.heap.size := Nat.le_trans hS.base hS.below.size
            refine ⟨_, _, h, ⟨E.m ++ [(w.heap.size, 0)], E.caps ++ [c2]⟩, _, _, ⟨⟨_, rfl⟩, ⟨_, rfl⟩⟩, ?_, hden w.heap.size 0 c2 h1, h3⟩
            have halloc : ∀ j, j < w.heap.size → (w.drew.alloc (.cells ((xo ++ xn).toArray ++ rest) e)).heap[j]? = w.heap[j]? := fun j hj => Below.heap_alloc w.drew _ j hj
            refine shared (cs2 := (xo ++ xn).toArray ++ rest) (el2 := e) hS hb hmid hallden k5 hBw (by simp) (by simp) (hS.below.drew.alloc hBw _) (fun j _ hj => halloc j hj)
              (fun j bj q hj hf hq => by have := (hS.ids j q hq).2; omega) (fun cs1 el1 fr1 h1 => ⟨cs1, by rw [halloc _ hids.2]; exact h1, rfl, fun _ _ => rfl⟩) (by show (w.heap.push _)[w.heap.size]? = _; simp) ?_ ?_ ?_ hget
            · rw [hszr]; simp only [List.length_append, hlen, hm0]; omega
            · intro i y hy
              have := (List.getElem?_eq_some_iff.1 hy).1
              rw [Nat.add_zero, Array.getElem?_append_left (by simpa using this)]; simpa using hy
            · rw [hszr, Nat.add_zero]; exact cap_arith n m c2 sz h1
  · cases h

theorem xCopy_sound (hc : CxOK P cx σ B w0) (hS : StRel σ B w0 E st w) {s d : AV} {ys yd : Value} {t u e ty : TypeId} (h : xCopy cx st k e s d = some r) (hs : s.den σ E = some ys) (hd : d.den σ E = some yd)
    (ht : P.underlying t = some (.slice e)) :
    ∃ v st', k v st' = some r ∧ AppOK P σ B w0 E w (Builtin.copy_ #[t, u] ty #[yd, ys]) v st' := by
  unfold xCopy at h
  split at h
  · rename_i b off n c
    obtain ⟨sz, hsz, h⟩ := obind_inv h
    obtain ⟨m, hm, h⟩ := obind_inv h
    obtain ⟨l, hl, h⟩ := obind_inv h
    obtain ⟨sad, sc, rfl⟩ := lenOf_sound hm hs
    obtain ⟨xs, hxs, hrun, _⟩ := cellsOfSlice_sound hc hS hl hs
    rcases den_slice_inv hd with ⟨h1, _⟩ | ⟨p, ad, cp, h1, had, hcp, hn, rfl⟩
    · cases h1
    · cases h1
      obtain ⟨st', w', g1, g2, g3⟩ := storeCells_sound hc hS h hxs had
      refine ⟨_, _, g1, E, .int .i64 (nmin m n : Nat), w', .refl E, g3, rfl, ?_⟩
      rw [nmin_eq] at hrun ⊢
      have e1 : Nat.min m n = min m n := rfl
      simp [Builtin.copy_, run_underlying ht, hc.size' hsz, Builtin.lenOf, hrun, g2, goInt, e1]
  · cases h

theorem xLen_sound {x v : AV} {d : TypeDesc} (h : xLen x d = some v) {y : Value} (hy : x.den σ E = some y) {t ty : TypeId} (ht : P.underlying t = some d) (tys : Array TypeId) (ht0 : tys[0]? = some t) (args : Array Value) (ha : args[0]? = some y) :
    ∃ z, v.den σ E = some z ∧ (Builtin.len_ tys ty args).run P w = .ok z w := by
  unfold xLen at h
  split at h
  · split at h
    · cases h
      obtain ⟨ad, cp, rfl, _⟩ := den_slice' hy
      exact ⟨_, rfl, by simp [Builtin.len_, ht0, ha, run_underlying ht, goInt]⟩
    · cases h
  · cases h
    exact ⟨_, rfl, by simp [Builtin.len_, ht0, ha, run_underlying ht, goInt]⟩
  · split at h
    · cases h
      simp only [AV.den, Option.some.injEq] at hy
      subst hy
      exact ⟨_, rfl, by simp [Builtin.len_, ht0, ha, run_underlying ht, goInt]⟩
    · cases h
  · cases h

theorem builtin_sound (hc : CxOK P cx σ B w0) (hS : StRel σ B w0 E st w) (hT : TmRel σ E tm a N) {b : Builtin} {args : Array Operand} {tys : Array TypeId} {vs : List AV} (hvs : evs tm args.toList = some vs)
    (h : builtin cx st k tys.toList vs b = some r) (ho : o.op = .call { callee := .builtin b, args := args, argTypes := tys }) :
    ∃ v st', k v st' = some r ∧ OpOK P σ B w0 E w o a v st' := by
  have hden := evs_sound hT hvs
  have hargs : (args.map a.eval).toList = args.toList.map a.eval := by simp
  have hget : ∀ {i : Nat} {v : AV}, getL i vs = some v → ∃ y, v.den σ E = some y ∧ (args.map a.eval)[i]? = some y := by
    intro i v hv
    rw [getL_eq] at hv
    obtain ⟨y, h1, h2⟩ := denL_get hden hv
    exact ⟨y, h1, by rw [← Array.getElem?_toList, hargs]; exact h2⟩
  have hty : ∀ {i : Nat} {t : TypeId}, getL i tys.toList = some t → tys[i]? = some t := by
    intro i t ht; rw [getL_eq] at ht; simpa using ht
  unfold builtin at h
  split at h
  · obtain ⟨t, ht, h⟩ := obind_inv h
    obtain ⟨x, hx, h⟩ := obind_inv h
    obtain ⟨d, hd, h⟩ := obind_inv h
    obtain ⟨v, hv, h⟩ := out_inv h
    obtain ⟨y, hy, hy2⟩ := hget hx
    obtain ⟨z, hz, hrun⟩ := xLen_sound (P := P) (w := w) (ty := o.type) hv hy (hc.und t d hd) tys (hty ht) (args.map a.eval) hy2
    refine ⟨_, _, h, opok_value hS hz ?_⟩
    simp [execOp, ho, resolve, invoke, Go.builtin, hrun]
  · obtain ⟨t, ht, h⟩ := obind_inv h
    obtain ⟨u, hu, h⟩ := obind_inv h
    obtain ⟨du, hdu, h⟩ := obind_inv h
    obtain ⟨eu, heu, h⟩ := obind_inv h
    obtain ⟨s, hs, h⟩ := obind_inv h
    obtain ⟨x, hx, h⟩ := obind_inv h
    obtain ⟨d, hd, h⟩ := obind_inv h
    obtain ⟨e, he, h⟩ := obind_inv h
    obtain ⟨ys, hys, hys2⟩ := hget hs
    obtain ⟨yx, hyx, hyx2⟩ := hget hx
    have se : ∀ {d : TypeDesc} {e : TypeId}, sliceElem d = some e → d = .slice e := by
      intro d e h; unfold sliceElem at h; split at h
      · cases h; rfl
      · cases h
    have hd' := hc.und t d hd
    rw [se he] at hd'
    have hdu' := hc.und u du hdu
    rw [se heu] at hdu'
    obtain ⟨v, st', g1, E', z, w', g2, g3, g4, g5⟩ := xAppend_sound (ty := o.type) hc hS h hys hyx hd' hdu'
    refine ⟨v, st', g1, E', z, w', g2, g3, g4, .inl ?_⟩
    have e1 : (Builtin.append_ tys o.type (args.map a.eval)) = (Builtin.append_ #[t, u] o.type #[ys, yx]) := by
      simp only [Builtin.append_, hty ht, hty hu, hys2, hyx2]
      rfl
    simp [execOp, ho, resolve, invoke, Go.builtin, e1, g5]
  · obtain ⟨t, ht, h⟩ := obind_inv h
    obtain ⟨d, hs, h⟩ := obind_inv h
    obtain ⟨x, hx, h⟩ := obind_inv h
    obtain ⟨dd, hd, h⟩ := obind_inv h
    obtain ⟨e, he, h⟩ := obind_inv h
    obtain ⟨yd, hyd, hyd2⟩ := hget hs
    obtain ⟨ys, hys, hys2⟩ := hget hx
    have se : dd = .slice e := by
      unfold sliceElem at he; split at he
      · cases he; rfl
      · cases he
    have hd' := hc.und t dd hd
    rw [se] at hd'
    obtain ⟨v, st', g1, E', z, w', g2, g3, g4, g5⟩ := xCopy_sound (u := 0) (ty := o.type) hc hS h hys hyd hd'
    refine ⟨v, st', g1, E', z, w', g2, g3, g4, .inl ?_⟩
    have e1 : (Builtin.copy_ tys o.type (args.map a.eval)) = (Builtin.copy_ #[t, 0] o.type #[yd, ys]) := by
      simp only [Builtin.copy_, hty ht, hyd2, hys2]
      rfl
    simp [execOp, ho, resolve, invoke, Go.builtin, e1, g5]
  · cases h
end
end Go.Sx
