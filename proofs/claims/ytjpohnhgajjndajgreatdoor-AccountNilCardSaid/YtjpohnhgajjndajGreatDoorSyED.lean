import Derived.Test.YtjpohnhgajjndajGreatDoorSyEC
/-! Append, whole; bytes and texts. -/
namespace Go.Sy
section
variable {X : Tabs} {K : Nat → Prop} {w0 : World} {E : Env} {st : St} {w : World} {Θ : Pred} {R : List Back} {tm : Tm} {k : Kt} {o : Oper}

theorem bif_inv {b : Bool} {x y : VC} (h : (bif_ b x y).holds Θ E.va R) : (b = true ∧ x.holds Θ E.va R) ∨ (b = false ∧ y.holds Θ E.va R) := bif_holds h
theorem appNew_eq (st : St) (k : Kt) (es len : Nat) (cs : List AV) : appNew st k es len cs = k (.slice (some ⟨.r st.n, 0⟩) len (.u st.nc 0)) ((⟨st.n, Nat.succ st.nc, st.heap, st.live, st.x⟩ : St).blk ⟨lenL cs, puts cs 0 .nil, [], 0, st.n, Nat.succ st.nc, es⟩) := by
  obtain ⟨m, nc, h, lv, x⟩ := st
  unfold appNew
  simp only
  rw [natK_eq, newCells_eq]

theorem append_out (hc : CxOK X K w0) (hS : StRel X K w0 E st w) {args : Array Operand} {tys : Array TypeId} {bs : List BO} {t u e : TypeId} {sz : Nat} {du : TypeDesc} {z : List AV} {b0 bx : BO} (ho : o.op = .call ⟨.builtin .append, args, tys⟩) (hb : cOs args.toList = some bs)
    (ht : getL 0 tys.toList = some t) (hu : getL 1 tys.toList = some u) (hdu : X.cx.und.get u = some du) (hsrc : srcD du = true) (hs0 : getL 0 bs = some b0) (hx : getL 1 bs = some bx) (hd : X.cx.und.get t = some (.slice e)) (hn : X.cx.size.get e = some sz) (hz : X.cx.zero.get e = some z) (hpos : 0 < sz)
    (h : (xAppend X.cx sz (ev tm bx) st k (ev tm b0)).holds Θ E.va R) : EffOut X K w0 Θ R E o tm st w k := by
  intro ρ hR
  obtain ⟨yx, hyx, hyx2⟩ := barg ho hb hR hx
  obtain ⟨ys, hys, hys2⟩ := barg ho hb hR hs0
  have ht' := tys_get ht
  have hu' := tys_get hu
  have hut := hc.und t _ hd
  have huu := hc.und u _ hdu
  have go : ∀ v w', (Builtin.append_ #[t, u] o.type #[ys, yx]).run X.P w = .ok v w' → (execOp ρ o).run X.P w = .ok (.value v) w' := by
    intro v w' hw'
    have e1 : (Builtin.append_ tys o.type (args.map ρ)) = (Builtin.append_ #[t, u] o.type #[ys, yx]) := by
      simp only [Builtin.append_, ht', hu', hys2, hyx2]
      rfl
    simp [execOp, ho, resolve, invoke, Go.builtin, e1, hw']
  unfold xAppend at h
  split at h
  case h_2 => exact h.elim
  rename_i sa n c hev
  rw [hev] at hys
  obtain ⟨m, hm, h⟩ := vbind_inv h
  obtain ⟨new, hnew, h⟩ := vbind_inv h
  obtain ⟨old, hold, h⟩ := vbind_inv h
  rw [natK_eq] at h
  obtain ⟨hcond, h⟩ := vif_inv h
  rw [ble_iff, decide_eq_true_eq, natMul, natAdd] at hcond
  have hneed : n + m ≤ 16777216 := by
    have : (n + m) * 1 ≤ (n + m) * (sz + 1) := Nat.mul_le_mul_left _ (by omega)
    have h2 : (n + m) * (sz + 1) ≤ 16777216 := hcond
    omega
  have hlen : ∀ w, (Builtin.lenOf yx).run X.P w = .ok m w := fun w => lenOf_sound hm hyx w
  obtain ⟨xn, hxn, hm0, hrn, _⟩ := srcCells_sound hc hS hnew hyx hm (Nat.le_refl _)
  obtain ⟨xn', hxn', _, hrn', _⟩ := srcCells_sound hc hS.drew hnew hyx hm (Nat.le_refl _)
  rw [hxn] at hxn'; cases hxn'
  obtain ⟨xo, hxo, hlo, hro, hcell⟩ := srcCells_sound hc hS hold hys (m := n) rfl (Nat.le_refl _)
  obtain ⟨xo', hxo', _, hro', _⟩ := srcCells_sound hc hS.drew hold hys (m := n) rfl (Nat.le_refl _)
  rw [hxo] at hxo'; cases hxo'
  have hall := denL_append hxo hxn
  have grown : ∀ (cp : Nat) (sa' : Option Addr), ys = .slice sa' n cp → ¬ n + m ≤ cp → (appNew st k sz (n + m) (old ++ new)).holds Θ E.va R → OpRes X.P (Out X K w0 Θ R E st k) ((execOp ρ o).run X.P w) := by
    intro cp sa' e0 hgt h
    subst e0
    obtain ⟨_, hB⟩ := run_append (ty := o.type) hc hut huu hsrc hz hn hneed hlen hrn hro' hrn'
    obtain ⟨cc, rest, h1, h2, h3⟩ := hB hgt
    rw [go _ _ h3]
    have hxl : (xo ++ xn).length = n * sz + m * sz := by simp [hlo, hm0]
    obtain ⟨g1, g2⟩ := hS.newGrown hall (c := cc) (es := sz) (rest := rest) (el := e) (by rw [hxl, h2]; exact cap_arith n m cc sz h1) (by rw [hxl, ← Nat.add_mul]; exact Nat.mul_le_mul_right _ h1) w.drew rfl hS.drew
    rw [appNew_eq] at h
    exact ⟨_, _, E.both (w.heap.size, 0) cc, R, List.prefix_rfl, h, E.le_both _ _, g1, g2, slice_u_den hS h1⟩
  rcases den_slice_inv hys with ⟨rfl, rfl, rfl, rfl⟩ | ⟨p, ad, cp, rfl, had, hcp, hncp, rfl⟩
  · change (bif_ (Nat.ble (0 + m) 0) (appIn st k sz 0 (0 + m) 0 new none) (appNew st k sz (0 + m) (old ++ new))).holds Θ E.va R at h
    rw [ble_iff] at h
    by_cases c : 0 + m ≤ 0
    · rw [decide_eq_true c] at h
      have hm00 : m = 0 := by omega
      subst hm00
      obtain ⟨hA, _⟩ := run_append (ty := o.type) hc hut huu hsrc hz hn hneed hlen hrn hro' hrn'
      rw [go _ _ (hA c w rfl)]
      exact .now h hS rfl
    · rw [decide_eq_false c] at h
      exact grown 0 none rfl c h
  · obtain ⟨hA, hB⟩ := run_append (ty := o.type) hc hut huu hsrc hz hn hneed hlen hrn hro' hrn'
    cases c with
    | t _ => cases hcp
    | k cc =>
      simp only [cden, Option.some.injEq] at hcp
      subst hcp
      change (bif_ (Nat.ble (n + m) cc) (appIn st k sz n (n + m) cc new (some p)) (appNew st k sz (n + m) (old ++ new))).holds Θ E.va R at h
      rw [ble_iff] at h
      by_cases c : n + m ≤ cc
      · rw [decide_eq_true c] at h
        obtain ⟨b, off⟩ := p
        cases b with
        | g _ => exact h.elim
        | r b =>
          obtain ⟨st', w', g1, g2, g3, g4⟩ := storeCells_sound hS h hxn (aden_add had (n * sz))
          rw [go _ _ (hA c w' g2)]
          refine ⟨_, st', E, R, List.prefix_rfl, g1, .refl E, g3, g4, ?_⟩
          simp only [AV.den, had, cden]
          rw [if_pos c]
      · rw [decide_eq_false c] at h
        exact grown cc (some ad) rfl c h
    | u i sub =>
      obtain ⟨b, off⟩ := p
      cases b with
      | g _ => exact h.elim
      | r id =>
        obtain ⟨c0, hc0, hsub, hcp'⟩ : ∃ c0, E.caps[i]? = some c0 ∧ sub ≤ c0 ∧ cp = c0 - sub := by
          simp only [cden] at hcp
          cases hc0 : E.caps[i]? with
          | none => rw [hc0] at hcp; cases hcp
          | some c0 =>
            rw [hc0] at hcp
            simp only at hcp
            split at hcp
            · cases hcp; exact ⟨c0, rfl, by assumption, rfl⟩
            · cases hcp
        change (bif_ (Nat.ble (n + m) (knownU sz i sub n st (some ⟨.r id, off⟩))) (storeCells st id (Nat.add off (Nat.mul n sz)) new fun st => k (.slice (some ⟨.r id, off⟩) (n + m) (.u i sub)) st) _).holds Θ E.va R at h
        rw [ble_iff] at h
        have hkn := knownU_ok hS (es := sz) (i := i) (sub := sub) (n := n) (a := some ⟨.r id, off⟩) hc0 (by omega)
        by_cases c : n + m ≤ knownU sz i sub n st (some ⟨.r id, off⟩)
        · rw [decide_eq_true c] at h
          have hfit : n + m ≤ cp := by omega
          obtain ⟨st', w', g1, g2, g3, g4⟩ := storeCells_sound hS h hxn (aden_add had (n * sz))
          rw [go _ _ (hA hfit w' g2)]
          refine ⟨_, st', E, R, List.prefix_rfl, g1, .refl E, g3, g4, ?_⟩
          simp only [AV.den, had, hcp]
          rw [if_pos hfit]
        · rw [decide_eq_false c] at h
          obtain ⟨b, hb', h⟩ := vbind_inv h
          obtain ⟨hcond2, h⟩ := vif_inv h
          simp only [Bool.and_eq_true, beq_iff, ble_iff, decide_eq_true_eq] at hcond2
          obtain ⟨k1, k2, k3, k4, k5, k6⟩ := hcond2
          rw [natMul] at k3
          rw [natAdd, natMul] at k6
          obtain ⟨q, hmid, had'⟩ := aden_r had
          obtain ⟨idr, sh⟩ := q
          subst had'
          obtain ⟨cs, el, fr, hh, hr⟩ := blk_of hS hb' hmid
          obtain ⟨c1, hc1, hroom, _⟩ := hr.cap i k1
          rw [hc0] at hc1; cases hc1
          unfold appU at h
          rw [Tr.setK_eq, putsK_eq, natK_eq, natK_eq, natK_eq, Tr.setK_eq, Tr.setK_eq, natK_eq] at h
          have hget : ∀ j, (((killOthers st.heap id (famOf st b id)).set id (some ⟨Nat.add off (Nat.mul n sz), cutTr b.cells (Nat.sub b.sz (Nat.add off (Nat.mul n sz))) (Nat.add off (Nat.mul n sz)), [], 0, b.fam, b.cv, b.es⟩)).set st.n
              (some ⟨lenL (old ++ new), puts (old ++ new) 0 .nil, [], 0, b.fam, Nat.succ st.nc, sz⟩)).get j =
              if j = st.n then some ⟨lenL (old ++ new), puts (old ++ new) 0 .nil, [], 0, b.fam, Nat.succ st.nc, sz⟩ else if j = id then some ⟨off + n * sz, cutTr b.cells (b.sz - (off + n * sz)) (off + n * sz), [], 0, b.fam, b.cv, b.es⟩
              else if j ∈ famOf st b id then none else st.heap.get j := by
            intro j
            rw [Tr.get_set, Tr.get_set]
            by_cases e1 : st.n = j
            · subst e1; simp
            · rw [if_neg e1, if_neg (show ¬ j = st.n from fun h => e1 h.symm)]
              by_cases e2 : id = j
              · subst e2; rw [if_pos rfl, if_pos rfl]; rfl
              · rw [if_neg e2, if_neg (show ¬ j = id from fun h => e2 h.symm), killOthers_get]
                by_cases e3 : j ∈ famOf st b id
                · rw [if_pos ⟨e3, fun h => e2 h.symm⟩, if_pos e3]
                · rw [if_neg (fun h => e3 h.1), if_neg e3]
          have hids := hS.ids id _ hmid
          have hxl : (xo ++ xn).length = n * sz + m * sz := by simp [hlo, hm0]
          by_cases hin : n + m ≤ cp
          · clear hB
            have hmul : (sub + n + m) * sz ≤ c0 * sz := Nat.mul_le_mul_right _ (by omega)
            have hfit : off + sh + n * sz + m * sz ≤ cs.size := by
              rw [Nat.add_mul, Nat.add_mul] at hmul
              rw [k2] at hroom; omega
            have hst := run_storeCells_free X.P idr (off + sh + n * sz) el fr xn 0 cs w hh hr.free' (by rw [hm0]; omega) (denL_one (allOne_mem k4) hxn)
            simp only [Nat.add_zero] at hst
            have hadd : (⟨idr, off + sh, none⟩ : Addr).add (n * sz) = ⟨idr, off + sh + n * sz, none⟩ := add_eq _ _ _
            have hrun := hA hin _ (by simp only []; rw [hadd]; exact hst)
            rw [go _ _ hrun]
            have hsz2 : (cs.toList.take (off + sh + n * sz) ++ xn ++ cs.toList.drop (off + sh + n * sz + xn.length)).toArray.size = cs.size := by
              simp only [List.size_toArray, List.length_append, List.length_take, List.length_drop, Array.length_toList]; omega
            have hspl : ∀ i, (cs.toList.take (off + sh + n * sz) ++ xn ++ cs.toList.drop (off + sh + n * sz + xn.length)).toArray[i]? = if off + sh + n * sz ≤ i ∧ i < off + sh + n * sz + xn.length then xn[i - (off + sh + n * sz)]? else cs[i]? := by
              intro i; rw [splice_get _ _ _ _ (by simp; omega)]; simp
            have hrow := setRow_heap w idr cs (cs.toList.take (off + sh + n * sz) ++ xn ++ cs.toList.drop (off + sh + n * sz + xn.length)).toArray el fr hh
            obtain ⟨g1, g2⟩ := shared hS hb' hmid hall (c2 := cp) (es := sz) (start := off + n * sz) (id2 := idr) (sh2 := off + sh) k6 hids.1 (by rw [Go.Sy.setRow_size]; exact hids.2) (by rw [Go.Sy.setRow_size]; exact Nat.le_refl _) (hS.kept.setRow hids.1 _) (fun j hj _ => Go.Sy.setRow_other _ _ _ hj)
              (fun j bj q hj hf hq => hS.fams j id bj b q.1 q.2 idr sh hj hb' hq hmid hf) hh hr hrow hsz2 (fun i hi => by rw [hspl, if_neg (by omega)]) hrow (by rw [hsz2]; exact hr.free)
              (by rw [hsz2, hxl]; omega) (fun i y hy => by
                rw [hspl]
                by_cases c : i < n * sz
                · rw [if_neg (by omega)]
                  rw [List.getElem?_append_left (by omega)] at hy
                  have hn0 : 0 < n := by
                    rcases Nat.eq_zero_or_pos n with e | e
                    · subst e; simp at c
                    · exact e
                  have h5 := hcell _ _ _ rfl hn0 i y hy
                  rw [add_eq] at h5
                  simp only [World.cell?, hh] at h5
                  rw [← h5]; simp; congr 1; omega
                · rw [List.getElem?_append_right (by omega)] at hy
                  have h5 := (List.getElem?_eq_some_iff.1 hy).1
                  rw [if_pos (by omega), ← hy]; congr 1; omega) (by
                rw [hsz2]
                have : (cp + sub) * sz = c0 * sz := by congr 1; omega
                rw [Nat.add_mul] at this
                rw [k2] at hroom; omega) (by rw [hxl, ← Nat.add_mul]; exact Nat.mul_le_mul_right _ hin) hget
            exact ⟨_, _, E.both (idr, off + sh) cp, R, List.prefix_rfl, h, E.le_both _ _, g1, g2, slice_u_den hS hin⟩
          · -- a new one
            obtain ⟨c2, rest, h1, h2, h3⟩ := hB hin
            rw [go _ _ h3]
            have hszr : ((xo ++ xn).toArray ++ rest).size = n * sz + m * sz + (c2 - (n + m)) * sz := by simp only [Array.size_append, List.size_toArray, hxl, h2]
            have halloc : ∀ j, j < w.heap.size → (w.drew.alloc (.cells ((xo ++ xn).toArray ++ rest) e)).heap[j]? = w.heap[j]? := fun j hj => Go.RowKit.Below.heap_alloc w.drew _ j hj
            obtain ⟨g1, g2⟩ := shared hS hb' hmid hall (c2 := c2) (es := sz) (start := off + n * sz) (id2 := w.heap.size) (sh2 := 0) k6 (fun hK => absurd (hS.klt' _ hK) (Nat.lt_irrefl _)) (w2 := w.drew.alloc (.cells ((xo ++ xn).toArray ++ rest) e)) (by simp) (by simp) (hS.drew.kept.alloc hS.klt' _) (fun j _ hj => halloc j hj)
              (fun j bj q hj hf hq => by have := (hS.ids j q hq).2; omega) hh hr (by rw [halloc _ hids.2]; exact hh) rfl (fun _ _ => rfl) (cs2 := (xo ++ xn).toArray ++ rest) (el2 := e) (fr2 := (0, 0)) (by show (w.heap.push _)[w.heap.size]? = _; simp) (.inl rfl)
              (by rw [hszr, hxl]; omega) (fun i y hy => by
                have := (List.getElem?_eq_some_iff.1 hy).1
                rw [Nat.add_zero, Array.getElem?_append_left (by simpa using this)]; simpa using hy) (by rw [hszr, Nat.add_zero]; exact cap_arith n m c2 sz h1) (by rw [hxl, ← Nat.add_mul]; exact Nat.mul_le_mul_right _ h1) hget
            exact ⟨_, _, E.both (w.heap.size, 0) c2, R, List.prefix_rfl, h, E.le_both _ _, g1, g2, slice_u_den hS h1⟩
end
end Go.Sy
