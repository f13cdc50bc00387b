import Derived.Test.YtlcamplkgcokjaaSxP
/-! Structs and arrays: the same or not. -/
namespace Go.Sx
open Go.RowKit (Below)
section
variable {P : Program} {cx : Cx} {σ : Nat → Option Value} {B : Nat} {w0 : World} {E : Env} {w : World} {a : Act} {o : Oper}

theorem ilt_iff (a b : Int) : ilt a b = decide (a < b) := by
  cases a <;> cases b <;> simp only [ilt] <;> first | (simp; done) | skip
  all_goals (rw [Bool.eq_iff_iff]; simp [Nat.blt_eq]; try omega)
theorem fits_wf {q : IntKind} {n : Int} (h : fitsK q n = true) : (Lit.int q n).wf = true := by
  simp only [fitsK, Bool.and_eq_true, Bool.not_eq_true', ilt_iff, decide_eq_false_iff_not] at h
  simp only [Lit.wf, Bool.and_eq_true, decide_eq_true_eq]
  cases q <;> simp only [minOf, maxOf, IntKind.min, IntKind.max, IntKind.signed, IntKind.bits] at h ⊢ <;> constructor <;> simp <;> omega

/-- What a cell is as a literal. -/
def litRel (σ : Nat → Option Value) (v : AV) (l : Lit) : Prop := match v, l with
  | .bool a, .bool b => a = b
  | .int k n, .int k' m => k = k' ∧ n = m
  | .opq i, .int k m => σ i = some (.int k m)
  | _, _ => False
def litRels (σ : Nat → Option Value) : List AV → List Lit → Prop
  | [], [] => True
  | a :: l, b :: m => litRel σ a b ∧ litRels σ l m
  | _, _ => False
theorem litRels_append {a b : List AV} {x y : List Lit} : ∀ {a : List AV} {x : List Lit}, litRels σ a x → litRels σ b y → litRels σ (a ++ b) (x ++ y)
  | [], [], _, h => h
  | _ :: _, _ :: _, h, h' => ⟨h.1, litRels_append (a := a) (x := x) h.2 h'⟩
  | [], _ :: _, h, _ => h.elim
  | _ :: _, [], h, _ => h.elim

theorem litB_sound {l L : List AV} {xs : List Value} (h : litB l = some L) (hx : denL σ E l = some xs) : ∃ b, xs = [.bool b] ∧ L = [.bool b] := by
  unfold litB at h
  split at h
  · cases h
    obtain ⟨p, q, hp, hq, rfl⟩ := denL_cons.1 hx
    simp only [AV.den, Option.some.injEq] at hp
    rw [denL_nil.1 hq]
    exact ⟨_, by rw [← hp], rfl⟩
  · cases h
theorem litI_sound (hc : CxOK P cx σ B w0) {q : IntKind} {l L : List AV} {xs : List Value} (h : litI cx q l = some L) (hx : denL σ E l = some xs) : ∃ n, xs = [.int q n] ∧ litRels σ L [.int q n] ∧ (Lit.int q n).wf = true := by
  unfold litI at h
  split at h
  · rename_i k n
    obtain ⟨hb, h⟩ := bif_some h
    simp only [Bool.and_eq_true] at hb
    cases h
    have := kbeq_eq hb.1
    subst this
    obtain ⟨p, r, hp, hq, rfl⟩ := denL_cons.1 hx
    simp only [AV.den, Option.some.injEq] at hp
    rw [denL_nil.1 hq]
    exact ⟨n, by rw [← hp], ⟨⟨rfl, rfl⟩, trivial⟩, fits_wf hb.2⟩
  · rename_i i
    obtain ⟨a, ha, h⟩ := obind_inv h
    obtain ⟨hb, h⟩ := bif_some h
    cases h
    obtain ⟨k, lo, hi⟩ := a
    have := kbeq_eq hb
    simp only at this
    subst this
    obtain ⟨n, hn, _, _, hw⟩ := hc.iv i k lo hi ha
    obtain ⟨p, r, hp, hq, rfl⟩ := denL_cons.1 hx
    have hp' : σ i = some p := by simpa [AV.den] using hp
    rw [hn] at hp'
    rw [denL_nil.1 hq, ← Option.some.inj hp']
    exact ⟨n, rfl, ⟨hn, trivial⟩, hw⟩
  · cases h
theorem catO_inv {a b : Option (List AV)} {L : List AV} (h : catO a b = some L) : ∃ x y, a = some x ∧ b = some y ∧ L = x ++ y := by
  obtain ⟨x, hx, h⟩ := obind_inv h
  obtain ⟨y, hy, h⟩ := obind_inv h
  cases h
  exact ⟨x, y, hx, hy, rfl⟩

theorem mapM_map_opt {α β γ : Type} (g : α → β) (f : β → Option γ) : ∀ l : List α, (l.map g).mapM f = l.mapM fun x => f (g x)
  | [] => rfl
  | x :: l => by
    simp only [List.map_cons, List.mapM_cons]
    rw [mapM_map_opt g f l]

theorem litsA_sound {rec : TypeId → List AV → Option (List AV)} {e : TypeId} {s : Nat} {f : List Value → Option (List Lit)}
    (hrec : ∀ {cs L : List AV} {xs : List Value}, rec e cs = some L → denL σ E cs = some xs → ∃ M, f xs = some M ∧ litRels σ L M) :
    ∀ (n : Nat) {cs L : List AV} {xs : List Value}, litsA rec e n s cs = some L → denL σ E cs = some xs →
      ∃ M, ((List.range n).mapM fun i => f ((xs.drop (i * s)).take s)).map List.flatten = some M ∧ litRels σ L M
  | 0, cs, L, xs, h, hx => by
    cases h
    exact ⟨[], rfl, trivial⟩
  | n + 1, cs, L, xs, h, hx => by
    change catO (rec e (takeL s cs)) (litsA rec e n s (dropL s cs)) = some L at h
    obtain ⟨u, v, h1, h2, rfl⟩ := catO_inv h
    rw [takeL_eq] at h1
    rw [dropL_eq] at h2
    obtain ⟨M1, g1, r1⟩ := hrec h1 (denL_take s hx)
    obtain ⟨M2, g2, r2⟩ := litsA_sound hrec n h2 (denL_drop s hx)
    simp only [Option.map_eq_some_iff] at g2
    obtain ⟨ls, g2, g3⟩ := g2
    rw [List.range_succ_eq_map, List.mapM_cons, mapM_map_opt]
    have e1 : (fun i => f ((xs.drop ((Nat.succ i) * s)).take s)) = fun i => f (((xs.drop s).drop (i * s)).take s) := by
      funext i
      rw [List.drop_drop, Nat.succ_mul, Nat.add_comm]
    rw [e1, g2]
    exact ⟨M1 ++ M2, by simp [g1, g3], litRels_append (a := []) (x := []) r1 r2⟩

theorem litsF_sound {size : Tr Nat} {rec : TypeId → List AV → Option (List AV)} {g : TypeId → List Value → Option (List Lit)} {cs : List AV} {xs : List Value} (hx : denL σ E cs = some xs)
    {cells : TypeId → Nat} (hs : ∀ t s, size.get t = some s → cells t = s) :
    ∀ {fs : List Field} {L : List AV}, (∀ fd ∈ fs, ∀ {cs L : List AV} {xs : List Value}, rec fd.type cs = some L → denL σ E cs = some xs → ∃ M, g fd.type xs = some M ∧ litRels σ L M) → litsF size rec cs fs = some L →
      ∃ M, (fs.mapM fun fd => g fd.type ((xs.drop fd.offset).take (cells fd.type))).map List.flatten = some M ∧ litRels σ L M
  | [], L, _, h => by cases h; exact ⟨[], rfl, trivial⟩
  | fd :: fs, L, hrec, h => by
    change catO (obind (size.get fd.type) fun s => rec fd.type (takeL s (dropL fd.offset cs))) (litsF size rec cs fs) = some L at h
    obtain ⟨u, v, h1, h2, rfl⟩ := catO_inv h
    obtain ⟨s, hsz, h1⟩ := obind_inv h1
    rw [takeL_eq, dropL_eq] at h1
    obtain ⟨M1, g1, r1⟩ := hrec fd (by simp) h1 (denL_take s (denL_drop fd.offset hx))
    obtain ⟨M2, g2, r2⟩ := litsF_sound hx hs (fun x hx => hrec x (List.mem_cons_of_mem _ hx)) h2
    simp only [Option.map_eq_some_iff] at g2
    obtain ⟨ls, g2, g3⟩ := g2
    rw [List.mapM_cons, hs _ _ hsz, g1, g2]
    exact ⟨M1 ++ M2, by simp [g3], litRels_append (a := []) (x := []) r1 r2⟩

theorem litsT_sound (hc : CxOK P cx σ B w0) : ∀ (d : Nat) {t : TypeId} {cs L : List AV} {xs : List Value}, litsT cx d t cs = some L → P.keyTypeAt d t = true → denL σ E cs = some xs → ∃ M, P.keyLits d t xs = some M ∧ litRels σ L M
  | 0, t, cs, L, xs, h, _, _ => by cases h
  | d + 1, t, cs, L, xs, h, hk, hx => by
    change obind (cx.und.get t) (fun dd => obind (cx.size.get t) fun len => litsD cx (litsT cx d) len cs dd) = some L at h
    obtain ⟨dd, hd, h⟩ := obind_inv h
    obtain ⟨len, hlen, h⟩ := obind_inv h
    have hu := hc.und t dd hd
    have hcells : ∀ t s, cx.size.get t = some s → P.cellsOf t = s := fun t s hs => by
      obtain ⟨i, hi, hn⟩ := hc.size t s hs
      simp [Program.cellsOf, hi, hn]
    unfold Program.keyTypeAt at hk
    simp only [hu] at hk
    unfold Program.keyLits
    simp only [hu]
    unfold litsD at h
    split at h
    · obtain ⟨b, rfl, rfl⟩ := litB_sound h hx
      exact ⟨_, rfl, rfl, trivial⟩
    · obtain ⟨n, rfl, hr, hw⟩ := litI_sound hc h hx
      exact ⟨_, by simp [hw], hr⟩
    · rename_i n e _
      obtain ⟨hb, h⟩ := bif_some h
      rw [beq_iff, lenL_eq, decide_eq_true_eq] at hb
      obtain ⟨s, hs, h⟩ := obind_inv h
      show ∃ M, (if xs.length = P.cellsOf t then _ else _) = some M ∧ _
      rw [if_pos (by rw [denL_length hx, hb, hcells t len hlen])]
      simp only at hk
      have := litsA_sound (f := P.keyLits d e) (fun hr hx => litsT_sound hc d hr hk hx) n h hx
      rw [hcells e s hs]
      exact this
    · rename_i fs _
      obtain ⟨hb, h⟩ := bif_some h
      rw [beq_iff, lenL_eq, decide_eq_true_eq] at hb
      simp only [Bool.and_eq_true, Array.all_eq_true'] at hk
      show ∃ M, (if xs.length = P.cellsOf t ∧ (fs.all fun x => x.name != "_") = true then _ else _) = some M ∧ _
      rw [if_pos ⟨by rw [denL_length hx, hb, hcells t len hlen], by
        rw [Array.all_eq_true']
        intro f hf
        exact (hk.1.1 f hf).1⟩]
      exact litsF_sound (g := P.keyLits d) hx hcells (fun fd hfd => fun hr hx => litsT_sound hc d hr (hk.1.1 fd (by simpa using hfd)).2 hx) h
    · cases h

theorem bbeq_iff (a b : Bool) : bbeq a b = decide (a = b) := by cases a <;> cases b <;> rfl
theorem den_aggV {l : List AV} {v : Value} (h : (AV.agg l).den σ E = some v) : ∃ xs, denL σ E l = some xs ∧ v = .agg xs.toArray := by
  simp only [AV.den, Option.map_eq_some_iff] at h
  obtain ⟨xs, h1, h2⟩ := h
  exact ⟨xs, h1, h2.symm⟩
theorem tri_inv {y n r : Bool} (h : tri y n = some r) : (y = true ∧ r = true) ∨ (n = true ∧ r = false) := by
  cases y <;> cases n <;> simp [tri] at h <;> simp_all
theorem ivOf_sound (hc : CxOK P cx σ B w0) {x : AV} {p : IntKind × (Int × Int)} (h : ivOf cx x = some p) {v : Value} (hv : x.den σ E = some v) : ∃ n, v = .int p.1 n ∧ p.2.1 ≤ n ∧ n ≤ p.2.2 := by
  unfold ivOf at h
  split at h
  · cases h
    simp only [AV.den, Option.some.injEq] at hv
    exact ⟨_, hv.symm, Int.le_refl _, Int.le_refl _⟩
  · rename_i i
    obtain ⟨k, lo, hi⟩ := p
    obtain ⟨n, h1, h2, h3, _⟩ := hc.iv i k lo hi h
    have : σ i = some v := by simpa [AV.den] using hv
    rw [h1] at this
    exact ⟨n, (Option.some.inj this).symm, h2, h3⟩
  · cases h
theorem cmpIv_sound {op : BinOp} {a b c d n m : Int} {r : Bool} (h : cmpIv op a b c d = some r) (h1 : a ≤ n) (h2 : n ≤ b) (h3 : c ≤ m) (h4 : m ≤ d) : binInt op .i64 n m = some (.bool r) := by
  unfold cmpIv at h
  split at h <;> first | (cases h; done) | skip
  all_goals (
    rcases tri_inv h with ⟨g, rfl⟩ | ⟨g, rfl⟩ <;>
    simp only [ile, allEq, ilt_iff, ieq_eq, Bool.not_eq_true', decide_eq_true_eq, decide_eq_false_iff_not, Bool.or_eq_true, Bool.and_eq_true, beq_iff_eq] at g <;>
    simp only [binInt, ilt_iff, ieq_eq, Option.some.injEq, AV.bool.injEq, Bool.not_eq_true', Bool.not_eq_false', decide_eq_true_eq, decide_eq_false_iff_not, beq_iff_eq, beq_eq_false_iff_ne, ne_eq] <;> omega)
theorem cmpOrd_sound {op : BinOp} {o : Nat} {n m : Int} {r : Bool} (h : cmpOrd op o = some r) (ho : (o = 0 ∧ n < m) ∨ (o = 1 ∧ n = m) ∨ (2 ≤ o ∧ m < n)) : binInt op .i64 n m = some (.bool r) := by
  unfold cmpOrd at h
  split at h <;> first | (cases h; done) | skip
  all_goals (
    cases h
    simp only [binInt, ilt_iff, ieq_eq, Option.some.injEq, AV.bool.injEq, beq_iff]
    rw [Bool.eq_iff_iff]
    simp
    omega)
theorem binInt_cmp {op : BinOp} {k k' : IntKind} {n m : Int} {r : Bool} (h : binInt op k n m = some (.bool r)) : binInt op k' n m = some (.bool r) := by
  cases op <;> simp only [binInt] at h ⊢ <;> first | exact h | (cases h; done) | skip
  all_goals (first | unfold iquo at h | unfold irem at h | unfold Sx.shl at h | unfold Sx.shr at h) <;> split at h <;> cases h
theorem ordOf_sound (hc : CxOK P cx σ B w0) {x y : AV} {o : Nat} (h : ordOf cx x y = some o) {k k' : IntKind} {n m : Int} (hx : x.den σ E = some (.int k n)) (hy : y.den σ E = some (.int k' m)) : (o = 0 ∧ n < m) ∨ (o = 1 ∧ n = m) ∨ (2 ≤ o ∧ m < n) := by
  unfold ordOf at h
  split at h
  · rename_i i j
    have e1 : σ i = some (.int k n) := by simpa [AV.den] using hx
    have e2 : σ j = some (.int k' m) := by simpa [AV.den] using hy
    rw [beq_iff] at h
    by_cases e : i = j
    · subst e
      rw [e1] at e2
      simp only [decide_true, bif_true, Option.some.injEq] at h
      cases e2
      exact .inr (.inl ⟨h.symm, rfl⟩)
    · rw [decide_eq_false e] at h
      obtain ⟨hb, h⟩ := bif_some h
      rw [Nat.blt_eq] at hb
      exact hc.ord i j o hb h _ _ _ _ e1 e2
  · cases h
theorem litsT_len (hc : CxOK P cx σ B w0) {d : Nat} {t : TypeId} {cs L : List AV} {xs : List Value} (h : litsT cx d t cs = some L) (hw : (match P.underlying t with | some (.array _ _) | some (.struct _) => true | _ => false) = true) (hx : denL σ E cs = some xs) :
    (Value.agg xs.toArray).formed P t = true := by
  cases d with
  | zero => cases h
  | succ d =>
    change obind (cx.und.get t) (fun dd => obind (cx.size.get t) fun len => litsD cx (litsT cx d) len cs dd) = some L at h
    obtain ⟨dd, hd, h⟩ := obind_inv h
    obtain ⟨len, hlen, h⟩ := obind_inv h
    have hu := hc.und t dd hd
    have hcells : P.cellsOf t = len := by
      obtain ⟨i, hi, hn⟩ := hc.size t len hlen
      simp [Program.cellsOf, hi, hn]
    rw [hu] at hw
    unfold litsD at h
    split at h
    · cases hw
    · cases hw
    · obtain ⟨hb, h⟩ := bif_some h
      rw [beq_iff, lenL_eq, decide_eq_true_eq] at hb
      simp [Value.formed, hu, denL_length hx, hb, hcells]
    · obtain ⟨hb, h⟩ := bif_some h
      rw [beq_iff, lenL_eq, decide_eq_true_eq] at hb
      simp [Value.formed, hu, denL_length hx, hb, hcells]
    · cases h

theorem binQ_sound (hc : CxOK P cx σ B w0) {op : BinOp} {x y v : AV} {a b : Value} (h : binQ cx op x y = some v) (hp : x.den σ E = some a) (hq : y.den σ E = some b) :
    ∃ k n m r, a = .int k n ∧ b = .int k m ∧ v = .bool r ∧ binInt op k n m = some (.bool r) := by
  obtain ⟨p, hpv, h⟩ := obind_inv h
  obtain ⟨q, hqv, h⟩ := obind_inv h
  obtain ⟨hk, h⟩ := bif_some h
  obtain ⟨r, hr, h⟩ := obind_inv h
  cases h
  obtain ⟨n, hn, n1, n2⟩ := ivOf_sound hc hpv hp
  obtain ⟨m, hm, m1, m2⟩ := ivOf_sound hc hqv hq
  have hk := kbeq_eq hk
  have hbi : binInt op .i64 n m = some (.bool r) := by
    cases hcmp : cmpIv op p.2.1 p.2.2 q.2.1 q.2.2 with
    | some r' =>
      rw [hcmp] at hr
      change some r' = some r at hr
      cases hr
      exact cmpIv_sound hcmp n1 n2 m1 m2
    | none =>
      rw [hcmp] at hr
      change obind (ordOf cx x y) (fun o => cmpOrd op o) = some r at hr
      obtain ⟨ov, ho1, ho2⟩ := obind_inv hr
      exact cmpOrd_sound ho2 (ordOf_sound hc ho1 (hn ▸ hp) (hm ▸ hq))
  exact ⟨p.1, n, m, r, hn, by rw [hm, hk], rfl, binInt_cmp hbi⟩

theorem litRel_den {x : AV} {l : Lit} (h : litRel σ x l) (E : Env) : (∃ b, x = .bool b ∧ l = .bool b) ∨ ∃ k n, x.den σ E = some (.int k n) ∧ l = .int k n := by
  unfold litRel at h
  split at h
  · subst h; exact .inl ⟨_, rfl, rfl⟩
  · obtain ⟨rfl, rfl⟩ := h; exact .inr ⟨_, _, rfl, rfl⟩
  · exact .inr ⟨_, _, by simpa [AV.den] using h, rfl⟩
  · exact h.elim
theorem eqAtom_sound (hc : CxOK P cx σ B w0) {x y : AV} {l m : Lit} {r : Bool} (h : eqAtom cx x y = some r) (hx : litRel σ x l) (hy : litRel σ y m) : (r = true ↔ l = m) := by
  rcases litRel_den hx ⟨[], []⟩ with ⟨b, rfl, rfl⟩ | ⟨k, n, hd, rfl⟩
  · change obind (asB y) (fun c => some (bbeq b c)) = some r at h
    obtain ⟨c, hc', h⟩ := obind_inv h
    cases h
    rcases litRel_den hy ⟨[], []⟩ with ⟨b', rfl, rfl⟩ | ⟨k', n', hd', rfl⟩
    · cases hc'; simp [bbeq_iff]
    · unfold asB at hc'
      split at hc'
      · simp [AV.den] at hd'
      · cases hc'
  · have h' : obind (binQ cx .eql x y) (fun r => asB r) = some r := by
      cases x <;> first | exact h | (simp [AV.den] at hd; done)
    obtain ⟨v, hv, h'⟩ := obind_inv h'
    rcases litRel_den hy ⟨[], []⟩ with ⟨b', rfl, rfl⟩ | ⟨k', n', hd', rfl⟩
    · obtain ⟨_, _, _, _, _, e, _⟩ := binQ_sound hc hv hd (show (AV.bool b').den σ ⟨[], []⟩ = some (.bool b') from rfl)
      cases e
    · obtain ⟨k0, n0, m0, r0, e1, e2, rfl, hbi⟩ := binQ_sound hc hv hd hd'
      cases e1; cases e2
      cases h'
      simp only [binInt, Option.some.injEq, AV.bool.injEq, ieq_eq] at hbi
      rw [← hbi]
      simp
theorem eqAtoms_sound (hc : CxOK P cx σ B w0) : ∀ {l m : List AV} {L M : List Lit} {r : Bool}, eqAtoms cx l m = some r → litRels σ l L → litRels σ m M → (r = true ↔ L = M)
  | [], [], [], [], r, h, _, _ => by cases h; simp
  | x :: l, y :: m, a :: L, b :: M, r, h, h1, h2 => by
    simp only [eqAtoms] at h
    obtain ⟨s, hs, h⟩ := obind_inv h
    have e := eqAtom_sound hc hs h1.1 h2.1
    cases s with
    | false =>
      change some false = some r at h
      cases h
      simp only [Bool.false_eq_true, List.cons.injEq, false_iff, not_and]
      intro e'; exact absurd (e.2 e') (by simp)
    | true =>
      change eqAtoms cx l m = some r at h
      rw [eqAtoms_sound hc h h1.2 h2.2, List.cons.injEq]
      simp [e.1 rfl]
  | [], _ :: _, _, _, _, h, _, _ => by cases h
  | _ :: _, [], _, _, _, h, _, _ => by cases h
  | [], [], _ :: _, _, _, _, h, _ => h.elim
  | [], [], [], _ :: _, _, _, _, h => h.elim
  | _ :: _, _ :: _, [], _, _, _, h, _ => h.elim
  | _ :: _, _ :: _, _ :: _, [], _, _, _, h => h.elim

theorem eqAgg_sound (hc : CxOK P cx σ B w0) {t : TypeId} {l m : List AV} {r : Bool} (h : eqAgg cx t l m = some r) {xs ys : List Value} (hx : denL σ E l = some xs) (hy : denL σ E m = some ys) (w : World) :
    (Op.equal t (.agg xs.toArray) (.agg ys.toArray)).run P w = .ok r w := by
  obtain ⟨d, hd, h⟩ := obind_inv h
  obtain ⟨la, ha, h⟩ := obind_inv h
  obtain ⟨lb, hb, h⟩ := obind_inv h
  obtain ⟨hk, _, hle, hw⟩ := hc.eqm t d hd
  obtain ⟨La, h1, r1⟩ := litsT_sound hc d ha hk hx
  obtain ⟨Lb, h2, r2⟩ := litsT_sound hc d hb hk hy
  obtain ⟨r', hr, hiff⟩ := run_equalIn_deep (10000 - d) d t hk w d d (.agg xs.toArray) (.agg ys.toArray) La Lb (litsT_len hc ha hw hx) (litsT_len hc hb hw hy) (by simpa [Value.cells] using h1) (by simpa [Value.cells] using h2)
  have h3 := eqAtoms_sound hc h r1 r2
  have : r' = r := by
    rw [Bool.eq_iff_iff, hiff, h3]
  rw [← this]
  have e : 10000 - d + d = 10000 := by omega
  rw [e] at hr
  exact hr

theorem binOpX_sound (hc : CxOK P cx σ B w0) {op : BinOp} {x y v : AV} {t yt : TypeId} {xo yo : Operand} (h : binOpX cx op t (isConst xo || isConst yo) y x = some v)
    (hp : x.den σ E = some (a.eval xo)) (hq : y.den σ E = some (a.eval yo)) (ho : o.op = .binOp op t xo yo yt) :
    ∃ z, v.den σ E = some z ∧ (execOp a.eval o).run P w = .ok (.value z) w := by
  by_cases hx : ∃ l, x = .agg l
  · obtain ⟨l, rfl⟩ := hx
    change binAgg cx op t l y = some v at h
    unfold binAgg at h
    split at h
    · rename_i m
      obtain ⟨r, hr, h⟩ := obind_inv h
      obtain ⟨xs, hxs, hp'⟩ := den_aggV hp
      obtain ⟨ys, hys, hq'⟩ := den_aggV hq
      have heq := eqAgg_sound hc hr hxs hys w
      obtain ⟨d, hd, _⟩ := obind_inv hr
      obtain ⟨_, hgt, _, _⟩ := hc.eqm t d hd
      have hex : (execOp a.eval o).run P w = ((do eqGuard op t xo yo (.agg xs.toArray) (.agg ys.toArray); Go.binOp op t (.agg xs.toArray) (.agg ys.toArray)) >>= fun v => pure (Next.value v) : Sem Next).run P w := by
        simp only [execOp, ho, hp', hq']
      have hg : (eqGuard op t xo yo (.agg xs.toArray) (.agg ys.toArray)).run P w = .ok () w := by
        unfold eqGuard
        cases op <;> simp [program, Sem.run, hgt]
      unfold binFn at h
      split at h
      · cases h
        refine ⟨_, rfl, ?_⟩
        rw [hex]
        have e : Go.binOp .eql t (.agg xs.toArray) (.agg ys.toArray) = (do pure (.bool (← Op.equal t (.agg xs.toArray) (.agg ys.toArray)))) := rfl
        rw [e]
        simp [hg, heq]
      · cases h
        refine ⟨_, rfl, ?_⟩
        rw [hex]
        have e : Go.binOp .neq t (.agg xs.toArray) (.agg ys.toArray) = (do pure (.bool (!(← Op.equal t (.agg xs.toArray) (.agg ys.toArray))))) := rfl
        rw [e]
        simp [hg, heq]
      · cases h
    · cases h
  · have key : binQ cx op x y = some v → ∃ z, v.den σ E = some z ∧ (execOp a.eval o).run P w = .ok (.value z) w := by
      intro h
      obtain ⟨k, n, m, r, hn, hm, rfl, hbi'⟩ := binQ_sound hc h hp hq
      obtain ⟨z, hz, hrun⟩ := binInt_sound (P := P) (σ := σ) (E := E) (t := t) hbi' (.inr rfl : isShift op = true ∨ k = k)
      refine ⟨z, hz, ?_⟩
      have hex : (execOp a.eval o).run P w = ((do eqGuard op t xo yo (a.eval xo) (a.eval yo); Go.binOp op t (a.eval xo) (a.eval yo)) >>= fun v => pure (Next.value v) : Sem Next).run P w := by
        simp only [execOp, ho]
      rw [hex, hn, hm]
      have hg : (eqGuard op t xo yo (.int k n) (.int k m)).run P w = .ok () w := by
        unfold eqGuard
        cases op <;> simp
      simp [hg, hrun]
    have plain : binOp cx.und op t (isConst xo || isConst yo) y x = some v → ∃ z, v.den σ E = some z ∧ (execOp a.eval o).run P w = .ok (.value z) w := fun h => binOp_sound hc h hp hq ho
    cases x <;> first | exact absurd ⟨_, rfl⟩ hx | exact plain h | exact key h | skip
    change Bool.rec (binOp cx.und op t _ y _) (binQ cx op _ y) (isOpq y) = some v at h
    cases hb : isOpq y with
    | false => rw [hb] at h; exact plain h
    | true => rw [hb] at h; exact key h
end
end Go.Sx
