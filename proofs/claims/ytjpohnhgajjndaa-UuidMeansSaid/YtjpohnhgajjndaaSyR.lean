import Derived.Test.YtjpohnhgajjndaaSyQ
/-! Slices; the others. -/
namespace Go.Sy
section
variable {X : Tabs} {K : Nat → Prop} {w0 : World} {E : Env} {st : St} {w : World} {Θ : Pred} {R : List Back} {tm : Tm} {k : Kt} {o : Oper}

theorem ops_slice {t : TypeId} {x : Operand} {lo hi mx : Option Operand} (ho : o.op = .slice t x lo hi mx) : x ∈ o.op.operands.toList ∧ (∀ y, lo = some y → y ∈ o.op.operands.toList) ∧ (∀ y, hi = some y → y ∈ o.op.operands.toList) ∧ (∀ y, mx = some y → y ∈ o.op.operands.toList) := by
  rw [ho]
  refine ⟨by simp [Op.operands], fun y h => ?_, fun y h => ?_, fun y h => ?_⟩ <;> subst h <;> simp [Op.operands]
theorem isNo_some {lo : Option Operand} {b : Option BO} (h : cOo lo = some b) : isNo b = lo.isNone := by
  cases lo with
  | none => cases h; rfl
  | some y => obtain ⟨v, _, e⟩ := obind_inv h; cases e; rfl
/-- All bounds of a slice expression. -/
theorem bnds_inv {d m : Nat} {lo hi : Option Operand} {lb hb : Option BO} {kk : Nat → Nat → St → VC} (h : (bndK tm d m st (fun h st => bndK tm 0 h st (fun l st => kk l h st) lb) hb).holds Θ E.va R) (hf : FOK E.va st.facts) (hO : Oks E tm)
    (hlo : cOo lo = some lb) (hhi : cOo hi = some hb) :
    ∃ l hh f, FOK E.va f ∧ (kk l hh (st.withF f)).holds Θ E.va R ∧ ∀ E' ρ os, E.Le E' → Rd E' tm ρ os → (∀ y, lo = some y → y ∈ os) → (∀ y, hi = some y → y ∈ os) → BndR ρ 0 l lo ∧ BndR ρ d hh hi := by
  obtain ⟨hh, f, _, hf1, h, hv⟩ := bndK_inv h hf hO hhi
  obtain ⟨l, g, _, hf2, h, lv⟩ := bndK_inv h (by rw [withF_facts]; exact hf1) hO hlo
  rw [withF_withF] at h
  exact ⟨l, hh, g, hf2, h, fun E' ρ os hE hR m1 m2 => ⟨bnd_of lv hE hR m1, bnd_of hv hE hR m2⟩⟩
theorem mkSl_eq (a : Option AAddr) (n : Nat) (c : Cap) : mkSl k st a n c = k (.slice a n c) st := by
  cases a with
  | none => rfl
  | some a => obtain ⟨b, off⟩ := a; show natK off (fun o => k (.slice (some ⟨b, o⟩) n c) st) = _; rw [natK_eq]
theorem cut_den {E : Env} {y : AAddr} {ad : Addr} (had : aden E y = some ad) {l h m es : Nat} (h1 : l ≤ h) (h2 : h ≤ m) :
    (AV.slice (bif_ (Nat.beq m l) (some y) (addO (some y) (Nat.mul l es))) (Nat.sub h l) (.k (Nat.sub m l))).den E = some (.slice (some (if m = l then ad else ad.add (l * es))) (h - l) (m - l)) := by
  rw [beq_iff]
  by_cases e : m = l
  · rw [decide_eq_true e, bif_true, if_pos e]
    simp only [AV.den, had, cden, natSub]
    rw [if_pos (by omega)]
  · rw [decide_eq_false e, bif_false, if_neg e]
    have := aden_add (b := y.b) (off := y.off) had (l * es)
    simp only [addO, AV.den, natAdd, natMul, this, cden, natSub]
    rw [if_pos (by omega)]
/-- The run of a slice expression of a slice. -/
theorem run_slS {P : Program} {t e : TypeId} {es n c l h m : Nat} {lo hi mx : Option Operand} {ρ : Operand → Value} {x : Operand} {a : Option Addr} {w : World} (hu : P.underlying t = some (.slice e)) (hs : (sizeOf e).run P w = .ok es w) (hx : ρ x = .slice a n c)
    (hb : (Instr.sliceBounds true n c (lo.map ρ) (hi.map ρ) (mx.map ρ)).run P w = .ok (l, h, m) w) (ho : o.op = .slice t x lo hi mx) : (execOp ρ o).run P w = .ok (.value (.slice (if m = l then a else a.map (·.add (l * es))) (h - l) (m - l))) w := by
  simp [execOp, ho, hx, Instr.sliceAt, run_underlying hu, Instr.slice, hb, hs]
theorem ble2 {a b c : Nat} (h : (Nat.ble a b && Nat.ble b c) = true) : a ≤ b ∧ b ≤ c := by simpa [ble_iff] using h
theorem ble3 {a b c d : Nat} (h : (Nat.ble a b && (Nat.ble b c && Nat.ble c d)) = true) : a ≤ b ∧ b ≤ c ∧ c ≤ d := by simpa [ble_iff] using h
theorem xSlS_out (hc : CxOK X K w0) (hS : StRel X K w0 E st w) (hO : Oks E tm) {t e : TypeId} {es : Nat} {x : Operand} {lo hi mx : Option Operand} {bx : BO} {lb hb mb : Option BO} (hx : cO x = some bx) (hlo : cOo lo = some lb) (hhi : cOo hi = some hb) (hmx : cOo mx = some mb)
    (hd : X.cx.und.get t = some (.slice e)) (hs : X.cx.size.get e = some es) (hmh : mx.isSome = true → hi.isSome = true) (ho : o.op = .slice t x lo hi mx)
    (h : (xSlS tm es st k lb hb mb (ev tm bx)).holds Θ E.va R) : ValOut X Θ R E o tm st k := by
  have hf := hS.facts
  obtain ⟨mx0, mlo, mhi, mmx⟩ := ops_slice ho
  have hu := hc.und t _ hd
  obtain ⟨x0, hx0⟩ := hO.ev hx
  cases mx with
  | none =>
    cases hmx
    unfold xSlS at h
    simp only at h
    split at h
    · rename_i a n c hev
      obtain ⟨l, hh, f, hf', h, hbn⟩ := bnds_inv (kk := fun l h st => cutK es a c k l h c st) h hf hO hlo hhi
      obtain ⟨hcut, h⟩ := vif_inv h
      obtain ⟨h1, h2, _⟩ := ble3 hcut
      rw [natK_eq, natK_eq, mkSl_eq] at h
      refine ⟨_, f, h, hf', fun E' ρ hE hR => ?_⟩
      obtain ⟨bl, bh⟩ := hbn E' ρ _ hE hR mlo mhi
      have hxv := hR.get mx0 hx
      rw [hev] at hxv
      rcases den_slice_inv hxv with ⟨rfl, rfl, e2, e0⟩ | ⟨y, ad, cp, rfl, had, e2, _, e0⟩
      · cases e2
        have e3 : hh = 0 := by omega
        have e4 : l = 0 := by omega
        subst e3; subst e4
        refine ⟨.slice none 0 0, rfl, fun w => ?_⟩
        have := run_slS (o := o) hu (hc.size' hs w) e0 (run_bounds (P := X.P) (b := true) bl bh (.inl ⟨rfl, rfl⟩) (by simp) h1 h2 (Nat.le_refl _) w) ho
        simpa using this
      · cases e2
        refine ⟨_, cut_den had h1 h2, fun w => ?_⟩
        have := run_slS (o := o) hu (hc.size' hs w) e0 (run_bounds (P := X.P) (b := true) bl bh (.inl ⟨rfl, rfl⟩) (by simp) h1 h2 (Nat.le_refl _) w) ho
        rw [this]; congr 3
        split <;> rfl
    · rename_i a i n d hev
      obtain ⟨hh, f, hb1, hf1, h, hv⟩ := bndK_inv h hf hO hhi
      obtain ⟨l, g, hb2, hf2, h, lv⟩ := bndK_inv h (by rw [withF_facts]; exact hf1) hO hlo
      rw [withF_withF] at h
      refine ⟨_, g, h, hf2, fun E' ρ hE hR => ?_⟩
      have bl := bnd_of lv hE hR mlo
      have bh := bnd_of hv hE hR mhi
      have hxv := hR.get mx0 hx
      rw [hev] at hxv
      obtain ⟨ad, c, g1, g2, g3, e0⟩ := den_sl0 hxv
      have e3 : hh = 0 := by omega
      have e4 : l = 0 := by omega
      subst e3; subst e4
      refine ⟨_, hxv, fun w => ?_⟩
      rw [run_slS (o := o) hu (hc.size' hs w) e0 (run_bounds (P := X.P) (b := true) (m := c - n) bl bh (.inl ⟨rfl, rfl⟩) (by simp) (Nat.le_refl _) (Nat.zero_le _) (Nat.le_refl _) w) ho, e0]
      congr 2
      simp [Addr.add]
    · rename_i a n i sub hev
      rw [hev] at hx0
      rw [natK_eq] at h
      obtain ⟨y, c, hya, hc0, hsub, hn⟩ : ∃ y c, a = some y ∧ E.caps[i]? = some c ∧ sub ≤ c ∧ n ≤ c - sub := by
        rcases den_slice_inv hx0 with ⟨_, _, e2, _⟩ | ⟨y, _, cp, e1, _, e2, e3, _⟩
        · cases e2
        · have e2 : cden E (.u i sub) = some cp := e2
          simp only [cden] at e2
          split at e2
          · rename_i c hcc
            split at e2
            · cases e2; exact ⟨y, c, e1, hcc, by assumption, e3⟩
            · cases e2
          · cases e2
      have hku := knownU_ok hS (es := es) (a := a) hc0 (show n + sub ≤ c by omega)
      generalize knownU es i sub n st a = mm at h hku
      obtain ⟨l, hh, f, hf', h, hbn⟩ := bnds_inv (kk := fun l h st => cutU es a mm i sub k l h st) h hf hO hlo hhi
      obtain ⟨hcut, h⟩ := vif_inv h
      obtain ⟨h1, h2⟩ := ble2 hcut
      have real : ∀ E' ρ, E.Le E' → Rd E' tm ρ o.op.operands.toList → ∃ ad cp, aden E' y = some ad ∧ E'.caps[i]? = some c ∧ cp = c - sub ∧ (∀ w, (execOp ρ o).run X.P w = .ok (.value (.slice (if cp = l then some ad else some (ad.add (l * es))) (hh - l) (cp - l))) w) := by
        intro E' ρ hE hR
        obtain ⟨bl, bh⟩ := hbn E' ρ _ hE hR mlo mhi
        have hxv := hR.get mx0 hx
        rw [hev, hya] at hxv
        rcases den_slice_inv hxv with ⟨e, _⟩ | ⟨y', ad, cp, e1, had, e2, _, e0⟩
        · cases e
        · cases e1
          have hc1 := hE.caps _ _ hc0
          have e2 : cden E' (.u i sub) = some cp := e2
          simp only [cden, hc1, if_pos hsub, Option.some.injEq] at e2
          refine ⟨ad, cp, had, hc1, e2.symm, fun w => ?_⟩
          rw [run_slS (o := o) hu (hc.size' hs w) e0 (run_bounds (P := X.P) (b := true) bl bh (.inl ⟨rfl, rfl⟩) (by simp) h1 (by omega) (Nat.le_refl _) w) ho]
          congr 3
      rcases bif_holds h with ⟨hl, h⟩ | ⟨hl, h⟩
      · rw [natK_eq, natK_eq, mkSl_eq] at h
        refine ⟨_, f, h, hf', fun E' ρ hE hR => ?_⟩
        obtain ⟨ad, cp, had, hc1, hcp, hrun⟩ := real E' ρ hE hR
        have hl' : l = 0 ∨ l < mm := by
          rw [Bool.or_eq_true] at hl
          exact hl.imp (fun h => by rwa [beq_iff, decide_eq_true_eq] at h) (fun h => by rwa [blt_iff, decide_eq_true_eq] at h)
        refine ⟨.slice (some (ad.add (l * es))) (hh - l) (cp - l), ?_, fun w => ?_⟩
        · have had' := aden_add (b := y.b) (off := y.off) had (l * es)
          rw [hya]
          simp only [addO, AV.den, natAdd, natMul, had', cden, hc1, natSub]
          rw [if_pos (by omega)]
          simp only []
          rw [if_pos (by omega)]
          congr 2; omega
        · rw [hrun w]
          congr 2
          by_cases e : cp = l
          · have e1 : l = 0 := by omega
            rw [if_pos e, e1]; simp [Addr.add]
          · rw [if_neg e]
      · rw [hya] at h
        have h : (newSl0 es i sub l k (st.withF f) y).holds Θ E.va R := h
        unfold newSl0 at h
        rw [natK_eq, natK_eq, natK_eq] at h
        refine ⟨_, f, h, hf', fun E' ρ hE hR => ?_⟩
        obtain ⟨ad, cp, had, hc1, hcp, hrun⟩ := real E' ρ hE hR
        have hl' : l = mm := by
          rw [Bool.or_eq_false_iff, blt_iff, decide_eq_false_iff_not] at hl
          omega
        refine ⟨.slice (some (if c = sub + l then ad else ad.add (l * es))) 0 (c - (sub + l)), ?_, fun w => ?_⟩
        · have : aden E' ⟨y.b, y.off⟩ = some ad := had
          simp only [AV.den, this, hc1, natAdd, natMul]
          rw [if_pos (by omega)]
        · rw [hrun w]
          congr 2
          have e5 : hh - l = 0 := by omega
          rw [e5]
          have e6 : cp - l = c - (sub + l) := by omega
          rw [e6]
          by_cases e : cp = l
          · rw [if_pos e, if_pos (by omega)]
          · rw [if_neg e, if_neg (by omega)]
    · exact h.elim
  | some my =>
    obtain ⟨b, hb', e⟩ := obind_inv hmx
    cases e
    have common : ∀ (a : Option AAddr) (n top : Nat) (cp : Cap), ev tm bx = .slice a n cp → (∀ c, cden E cp = some c → n ≤ c → top ≤ c) → (idxK (ev tm b) (Nat.succ top) st fun m st => bndK tm n m st (fun h st => bndK tm 0 h st (fun l st => vif (Nat.ble l h && (Nat.ble h m && Nat.ble m top)) (natK (Nat.sub h l) fun x => natK (Nat.sub m l) fun c => mkSl k st (bif_ (Nat.beq m l) a (addO a (Nat.mul l es))) x (.k c))) lb) hb).holds Θ E.va R →
        ValOut X Θ R E o tm st k := by
      intro a n top cp hev htop h
      obtain ⟨m, f, hm, hf1, h, kd, hmv⟩ := idxK_inv h hf (hO.ev hb')
      obtain ⟨l, hh, g, hf2, h, hbn⟩ := bnds_inv (kk := fun l h st => vif (Nat.ble l h && (Nat.ble h m && Nat.ble m top)) (natK (Nat.sub h l) fun x => natK (Nat.sub m l) fun c => mkSl k st (bif_ (Nat.beq m l) a (addO a (Nat.mul l es))) x (.k c))) h (by rw [withF_facts]; exact hf1) hO hlo hhi
      rw [withF_withF] at h
      obtain ⟨hcut, h⟩ := vif_inv h
      obtain ⟨h1, h2, h3⟩ := ble3 hcut
      rw [natK_eq, natK_eq, mkSl_eq] at h
      refine ⟨_, g, h, hf2, fun E' ρ hE hR => ?_⟩
      obtain ⟨bl, bh⟩ := hbn E' ρ _ hE hR mlo mhi
      have hbm : ∀ c, BndR ρ c m (some my) := fun c => .inr ⟨my, kd, rfl, hmv E' _ hE (hR my (mmx my rfl) b hb')⟩
      have hxv := hR.get mx0 hx
      rw [hev] at hxv hx0
      rcases den_slice_inv hx0 with ⟨e1, e2, e3, _⟩ | ⟨y, _, c, e1, _, e3, hnc, _⟩
      · subst e1 e2 e3
        have ht := htop 0 rfl (Nat.le_refl _)
        have e5 : m = 0 := by omega
        have e3 : hh = 0 := by omega
        have e4 : l = 0 := by omega
        subst e5; subst e3; subst e4
        rcases den_slice_inv hxv with ⟨_, _, _, e0⟩ | ⟨_, _, _, e, _⟩
        · refine ⟨.slice none 0 0, rfl, fun w => ?_⟩
          have := run_slS (o := o) hu (hc.size' hs w) e0 (run_bounds (P := X.P) (b := true) bl bh (hbm _) hmh (Nat.le_refl _) (Nat.le_refl _) (Nat.le_refl _) w) ho
          simpa using this
        · cases e
      · subst e1
        have ht := htop c e3 hnc
        have e3' : cden E' cp = some c := cden_mono hE e3
        rcases den_slice_inv hxv with ⟨e, _⟩ | ⟨y', ad, c', e1, had, e2, _, e0⟩
        · cases e
        · cases e1
          rw [e3'] at e2; cases e2
          refine ⟨_, cut_den had h1 h2, fun w => ?_⟩
          have := run_slS (o := o) hu (hc.size' hs w) e0 (run_bounds (P := X.P) (b := true) bl bh (hbm _) hmh h1 h2 (by omega) w) ho
          rw [this]; congr 3
          split <;> rfl
    unfold xSlS at h
    simp only at h
    split at h
    · rename_i a n c hev
      exact common a n c _ hev (fun c' h1 _ => by cases h1; exact Nat.le_refl _) h
    · rename_i a n i sub hev
      exact common a n n _ hev (fun c' _ h => h) h
    · exact h.elim
theorem xSlA_out (hc : CxOK X K w0) (hS : StRel X K w0 E st w) (hO : Oks E tm) {t e : TypeId} {n es : Nat} {x : Operand} {lo hi mx : Option Operand} {bx : BO} {lb hb mb : Option BO} (hx : cO x = some bx) (hlo : cOo lo = some lb) (hhi : cOo hi = some hb) (hmx : cOo mx = some mb)
    (hd : X.cx.und.get t = some (.array n e) ∨ ∃ p, X.cx.und.get t = some (.pointer p) ∧ X.cx.und.get p = some (.array n e)) (hs : X.cx.size.get e = some es) (hmh : mx.isSome = true → hi.isSome = true) (ho : o.op = .slice t x lo hi mx)
    (h : (xSlA tm n es st k lb hb mb (ev tm bx)).holds Θ E.va R) : ValOut X Θ R E o tm st k := by
  have hf := hS.facts
  obtain ⟨mx0, mlo, mhi, mmx⟩ := ops_slice ho
  obtain ⟨a, ha, h⟩ := vbind_inv h
  obtain ⟨m, f, _, hf1, h, mv⟩ := bndK_inv h hf hO hmx
  obtain ⟨l, hh, g, hf2, h, hbn⟩ := bnds_inv (kk := fun l h st => cutA es a n k l h m st) h (by rw [withF_facts]; exact hf1) hO hlo hhi
  rw [withF_withF] at h
  obtain ⟨hcut, h⟩ := vif_inv h
  obtain ⟨h1, h2, h3⟩ := ble3 hcut
  rw [natK_eq, natK_eq, natK_eq] at h
  refine ⟨_, g, h, hf2, fun E' ρ hE hR => ?_⟩
  obtain ⟨bl, bh⟩ := hbn E' ρ _ hE hR mlo mhi
  have bm := bnd_of mv hE hR mmx
  have hxv := hR.get mx0 hx
  rw [asPtr_inv ha] at hxv
  obtain ⟨ad, had, e0⟩ := den_ptr hxv
  refine ⟨.slice (some (if m = l then ad else ad.add (l * es))) (hh - l) (m - l), ?_, fun w => ?_⟩
  · rw [beq_iff]
    by_cases e : m = l
    · rw [decide_eq_true e, bif_true, if_pos e]
      have : aden E' ⟨a.b, a.off⟩ = some ad := had
      simp only [AV.den, this, cden, natSub]
      rw [if_pos (by omega)]
    · rw [decide_eq_false e, bif_false, if_neg e]
      have := aden_add (b := a.b) (off := a.off) had (l * es)
      simp only [AV.den, natAdd, natMul, this, cden, natSub]
      rw [if_pos (by omega)]
  · have hbs := run_bounds (P := X.P) (b := false) (n := n) (c := n) bl (by
      rcases bh with h | h
      · exact .inl h
      · exact .inr h) bm hmh h1 h2 h3 w
    rcases hd with hd | ⟨p, hd, hp⟩
    · simp [execOp, ho, e0, Instr.sliceAt, hc.und' hd, Instr.sureAddr, hbs, hc.size' hs]
    · simp [execOp, ho, e0, Instr.sliceAt, hc.und' hd, Instr.slice, asAddr, hc.und' hp, hbs, hc.size' hs]
theorem bytesOf_extract (s : List Nat) (l h : Nat) : (bytesOf s).extract l h = bytesOf ((s.drop l).take (h - l)) := by
  apply ByteArray.ext
  rw [ByteArray.data_extract]
  apply Array.ext'
  simp [bytesOf, List.map_take, List.map_drop]
theorem xSlT_out (hc : CxOK X K w0) (hS : StRel X K w0 E st w) (hO : Oks E tm) {t : TypeId} {x : Operand} {lo hi : Option Operand} {bx : BO} {lb hb : Option BO} (hx : cO x = some bx) (hlo : cOo lo = some lb) (hhi : cOo hi = some hb)
    (hd : X.cx.und.get t = some .string) (ho : o.op = .slice t x lo hi none)
    (h : (xSlT tm st k lb hb (ev tm bx)).holds Θ E.va R) : ValOut X Θ R E o tm st k := by
  have hf := hS.facts
  obtain ⟨mx0, mlo, mhi, _⟩ := ops_slice ho
  unfold xSlT at h
  split at h
  · rename_i n s hev
    obtain ⟨hh, f, hb1, hf1, h, hv⟩ := bndK_inv h hf hO hhi
    obtain ⟨l, g, hb2, hf2, h, lv⟩ := bndK_inv h (by rw [withF_facts]; exact hf1) hO hlo
    rw [withF_withF] at h
    obtain ⟨hcut, h⟩ := vif_inv h
    rw [ble_iff, decide_eq_true_eq] at hcut
    rw [natK_eq, takeL_eq, dropL_eq, natSub] at h
    refine ⟨_, g, h, hf2, fun E' ρ hE hR => ?_⟩
    have bl := bnd_of lv hE hR mlo
    have bh := bnd_of hv hE hR mhi
    have hxv := hR.get mx0 hx
    rw [hev] at hxv
    obtain ⟨hn, hs, e0⟩ := den_str hxv
    have hhn : hh ≤ n := by omega
    refine ⟨_, den_str_of (by simp; omega) (fun c hc => hs c (List.mem_of_mem_drop (List.mem_of_mem_take hc))), fun w => ?_⟩
    have hsz : (bytesOf s).size = n := by rw [bytesOf_size, hn]
    have hbs := run_bounds (P := X.P) (b := false) (n := n) (c := n) (m := n) bl bh (.inl ⟨rfl, rfl⟩) (by simp) hcut hhn (Nat.le_refl _) w
    rw [Option.map_none] at hbs
    simp [execOp, ho, e0, Instr.sliceAt, hc.und' hd, Instr.slice, hsz, hbs, bytesOf_extract]
  · exact h.elim
end
end Go.Sy
