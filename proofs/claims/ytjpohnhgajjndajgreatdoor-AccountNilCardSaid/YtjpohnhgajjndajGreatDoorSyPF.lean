import Derived.Test.YtjpohnhgajjndajGreatDoorSyPE
/-! Operators: structs, arrays, texts, truths; all of them. -/
namespace Go.Sy
section
variable {X : Tabs} {K : Nat → Prop} {w0 : World} {E : Env} {st : St} {w : World} {Θ : Pred} {R : List Back} {tm : Tm} {k : Kt} {o : Oper}

/-- What a cell is as a literal. -/
def litRel (ρ : Va) (v : AV) (l : Lit) : Prop := match v, l with
  | .bool a, .bool b => a = b
  | .cnd t, .bool b => t.ev ρ = some (.b b)
  | .int k u, .int j n => k = j ∧ n = sgn k u ∧ u < modOf k
  | .sym k t, .int j n => k = j ∧ t.ev ρ = some (.i n)
  | .str _ s, .string l => l = s.map UInt8.ofNat ∧ ∀ c ∈ s, c < 256
  | _, _ => False
def litRels (ρ : Va) : List AV → List Lit → Prop
  | [], [] => True
  | a :: l, b :: m => litRel ρ a b ∧ litRels ρ l m
  | _, _ => False
theorem litRels_append {ρ : Va} {b : List AV} {y : List Lit} : ∀ {a : List AV} {x : List Lit}, litRels ρ a x → litRels ρ b y → litRels ρ (a ++ b) (x ++ y)
  | [], [], _, h => h
  | _ :: _, _ :: _, h, h' => ⟨h.1, litRels_append h.2 h'⟩
  | [], _ :: _, h, _ => h.elim
  | _ :: _, [], h, _ => h.elim
theorem litRel_mono {ρ ρ' : Va} (h : ρ.Le ρ') {v : AV} {l : Lit} (hr : litRel ρ v l) : litRel ρ' v l := by
  unfold litRel at *
  split at hr
  · exact hr
  · exact ev_mono h hr
  · exact hr
  · exact ⟨hr.1, ev_mono h hr.2⟩
  · exact hr
  · exact hr.elim
theorem litRel_same {ρ : Va} {v : AV} {l m : Lit} (h : litRel ρ v l) (h' : litRel ρ v m) : l = m := by
  cases v <;> cases l <;> simp only [litRel] at h <;> cases m <;> simp only [litRel] at h'
  · rw [← h, ← h']
  · rw [← h.1, ← h'.1, h.2.1, h'.2.1]
  · have := h.2; rw [h'.2] at this; cases this; rw [← h.1, ← h'.1]
  · rw [h] at h'; cases h'; rfl
  · rw [h.1, h'.1]
theorem litRels_same {ρ : Va} : ∀ {v : List AV} {l m : List Lit}, litRels ρ v l → litRels ρ v m → l = m
  | [], [], [], _, _ => rfl
  | _ :: _, _ :: _, _ :: _, h, h' => by rw [litRel_same h.1 h'.1, litRels_same h.2 h'.2]
  | [], _ :: _, _, h, _ => h.elim
  | _ :: _, [], _, h, _ => h.elim
  | [], [], _ :: _, _, h => h.elim
  | _ :: _, _ :: _, [], _, h => h.elim
theorem litRels_mono {ρ ρ' : Va} (h : ρ.Le ρ') : ∀ {v : List AV} {l : List Lit}, litRels ρ v l → litRels ρ' v l
  | [], [], _ => trivial
  | _ :: _, _ :: _, hr => ⟨litRel_mono h hr.1, litRels_mono h hr.2⟩
  | [], _ :: _, h => h.elim
  | _ :: _, [], h => h.elim

theorem kn_inj {j k : IntKind} (h : litK.kn j = litK.kn k) : j = k := by cases j <;> cases k <;> first | rfl | (simp [litK.kn] at h)
theorem kn_lt (k : IntKind) : litK.kn k < 8 := by cases k <;> decide
theorem denL_one1 {v : AV} {xs : List Value} (h : denL E [v] = some xs) : ∃ x, v.den E = some x ∧ xs = [x] := by
  obtain ⟨p, q, hp, hq, rfl⟩ := denL_cons.1 h
  rw [denL_nil.1 hq]; exact ⟨p, hp, rfl⟩
theorem litK_bool {l L : List AV} {xs : List Value} (h : litK 0 l = some L) (hx : denL E l = some xs) : ∃ b, xs = [.bool b] ∧ litRels E.va L [.bool b] := by
  unfold litK at h
  split at h
  · rw [beq_iff] at h; cases h
    obtain ⟨x, h1, rfl⟩ := denL_one1 hx
    cases h1; exact ⟨_, rfl, rfl, trivial⟩
  · rw [beq_iff] at h; cases h
    obtain ⟨x, h1, rfl⟩ := denL_one1 hx
    obtain ⟨b, h2, rfl⟩ := den_cnd h1
    exact ⟨_, rfl, h2, trivial⟩
  · cases h
  · cases h
  · cases h
  · cases h
theorem litK_int {q : IntKind} {l L : List AV} {xs : List Value} (h : litK (Nat.succ (litK.kn q)) l = some L) (hx : denL E l = some xs) : ∃ n, xs = [.int q n] ∧ litRels E.va L [.int q n] ∧ (Lit.int q n).wf = true := by
  unfold litK at h
  split at h
  · cases h
  · cases h
  · obtain ⟨h1, h⟩ := bif_some h
    cases h
    rw [beq_iff, decide_eq_true_eq] at h1
    have := kn_inj (Nat.succ.inj h1); subst this
    obtain ⟨x, h1, rfl⟩ := denL_one1 hx
    obtain ⟨h2, rfl⟩ := den_int h1
    exact ⟨_, rfl, ⟨⟨rfl, rfl, h2⟩, trivial⟩, sgn_wf _ h2⟩
  · obtain ⟨h1, h⟩ := bif_some h
    cases h
    rw [beq_iff, decide_eq_true_eq] at h1
    have := kn_inj (Nat.succ.inj h1); subst this
    obtain ⟨x, h1, rfl⟩ := denL_one1 hx
    obtain ⟨n, h2, h3, rfl⟩ := den_sym h1
    exact ⟨_, rfl, ⟨⟨rfl, h2⟩, trivial⟩, h3⟩
  · obtain ⟨h1, h⟩ := bif_some h
    simp only [Bool.and_eq_true, beq_iff, decide_eq_true_eq] at h1
    have := kn_lt q
    have h3 := h1.1
    rw [natSucc] at h3; omega
  · cases h
theorem litK_str {l L : List AV} {xs : List Value} (h : litK 9 l = some L) (hx : denL E l = some xs) : ∃ s, xs = [.string s] ∧ litRels E.va L [.string s.data.toList] ∧ s.size ≤ maxLen := by
  unfold litK at h
  split at h
  · cases h
  · cases h
  · obtain ⟨h1, h⟩ := bif_some h
    rw [beq_iff, decide_eq_true_eq] at h1
    rename_i kd _ _
    have := kn_lt kd
    rw [natSucc] at h1; omega
  · obtain ⟨h1, h⟩ := bif_some h
    rw [beq_iff, decide_eq_true_eq] at h1
    rename_i kd _ _
    have := kn_lt kd
    rw [natSucc] at h1; omega
  · obtain ⟨h1, h⟩ := bif_some h
    cases h
    simp only [Bool.and_eq_true, ble_iff, decide_eq_true_eq] at h1
    obtain ⟨x, h2, rfl⟩ := denL_one1 hx
    obtain ⟨h3, h4, rfl⟩ := den_str h2
    refine ⟨_, rfl, ⟨⟨rfl, h4⟩, trivial⟩, ?_⟩
    rw [bytesOf_size, ← h3]; have := h1.2; simp [maxLen]; omega
  · cases h
theorem catO_inv {a b : Option (List AV)} {L : List AV} (h : catO a b = some L) : ∃ x y, a = some x ∧ b = some y ∧ L = x ++ y := by
  obtain ⟨x, hx, h⟩ := obind_inv h
  obtain ⟨y, hy, h⟩ := obind_inv h
  cases h
  exact ⟨x, y, hx, hy, rfl⟩
theorem mapM_map_opt {α β γ : Type} (g : α → β) (f : β → Option γ) : ∀ l : List α, (l.map g).mapM f = l.mapM fun x => f (g x)
  | [] => rfl
  | x :: l => by
    simp only [List.map_cons, List.mapM_cons]
    rw [mapM_map_opt g f l]
theorem litsA_sound {ρ : Va} {rec : TypeId → List AV → Option (List AV)} {e : TypeId} {s : Nat} {f : List Value → Option (List Lit)}
    (hrec : ∀ {cs L : List AV} {xs : List Value}, rec e cs = some L → denL E cs = some xs → ∃ M, f xs = some M ∧ litRels ρ L M) :
    ∀ (n : Nat) {cs L : List AV} {xs : List Value}, litsA rec e n s cs = some L → denL E cs = some xs →
      ∃ M, ((List.range n).mapM fun i => f ((xs.drop (i * s)).take s)).map List.flatten = some M ∧ litRels ρ L M
  | 0, cs, L, xs, h, hx => by
    cases h
    exact ⟨[], rfl, trivial⟩
  | n + 1, cs, L, xs, h, hx => by
    change catO (rec e (takeL s cs)) (litsA rec e n s (dropL s cs)) = some L at h
    obtain ⟨u, v, h1, h2, rfl⟩ := catO_inv h
    rw [takeL_eq] at h1
    rw [dropL_eq] at h2
    obtain ⟨M1, g1, r1⟩ := hrec h1 (denL_take s hx)
    obtain ⟨M2, g2, r2⟩ := litsA_sound hrec n h2 (denL_drop s hx)
    simp only [Option.map_eq_some_iff] at g2
    obtain ⟨ls, g2, g3⟩ := g2
    rw [List.range_succ_eq_map, List.mapM_cons, mapM_map_opt]
    have e1 : (fun i => f ((xs.drop ((Nat.succ i) * s)).take s)) = fun i => f (((xs.drop s).drop (i * s)).take s) := by
      funext i
      rw [List.drop_drop, Nat.succ_mul, Nat.add_comm]
    rw [e1, g2]
    exact ⟨M1 ++ M2, by simp [g1, g3], litRels_append r1 r2⟩
theorem litsF_sound {ρ : Va} {size : Tr Nat} {rec : TypeId → List AV → Option (List AV)} {g : TypeId → List Value → Option (List Lit)} {cs : List AV} {xs : List Value} (hx : denL E cs = some xs)
    {cells : TypeId → Nat} (hs : ∀ t s, size.get t = some s → cells t = s) :
    ∀ {fs : List Field} {L : List AV}, (∀ fd ∈ fs, ∀ {cs L : List AV} {xs : List Value}, rec fd.type cs = some L → denL E cs = some xs → ∃ M, g fd.type xs = some M ∧ litRels ρ L M) → litsF size rec cs fs = some L →
      ∃ M, (fs.mapM fun fd => g fd.type ((xs.drop fd.offset).take (cells fd.type))).map List.flatten = some M ∧ litRels ρ L M
  | [], L, _, h => by cases h; exact ⟨[], rfl, trivial⟩
  | fd :: fs, L, hrec, h => by
    change catO (obind (size.get fd.type) fun s => rec fd.type (takeL s (dropL fd.offset cs))) (litsF size rec cs fs) = some L at h
    obtain ⟨u, v, h1, h2, rfl⟩ := catO_inv h
    obtain ⟨s, hsz, h1⟩ := obind_inv h1
    rw [takeL_eq, dropL_eq] at h1
    obtain ⟨M1, g1, r1⟩ := hrec fd (by simp) h1 (denL_take s (denL_drop fd.offset hx))
    obtain ⟨M2, g2, r2⟩ := litsF_sound hx hs (fun x hx => hrec x (List.mem_cons_of_mem _ hx)) h2
    simp only [Option.map_eq_some_iff] at g2
    obtain ⟨ls, g2, g3⟩ := g2
    rw [List.mapM_cons, hs _ _ hsz, g1, g2]
    exact ⟨M1 ++ M2, by simp [g3], litRels_append r1 r2⟩
theorem litsT_sound (hc : CxOK X K w0) : ∀ (d : Nat) {t : TypeId} {cs L : List AV} {xs : List Value}, litsT X.cx d t cs = some L → X.P.keyTypeAt d t = true → denL E cs = some xs → ∃ M, X.P.keyLits d t xs = some M ∧ litRels E.va L M
  | 0, t, cs, L, xs, h, _, _ => by cases h
  | d + 1, t, cs, L, xs, h, hk, hx => by
    change obind (X.cx.und.get t) (fun dd => obind (X.cx.size.get t) fun len => litsD X.cx (litsT X.cx d) len cs dd) = some L at h
    obtain ⟨dd, hd, h⟩ := obind_inv h
    obtain ⟨len, hlen, h⟩ := obind_inv h
    have hu := hc.und t dd hd
    have hcells : ∀ t s, X.cx.size.get t = some s → X.P.cellsOf t = s := fun t s hs => by
      obtain ⟨i, hi, hn⟩ := hc.size t s hs
      simp [Program.cellsOf, hi, hn]
    unfold Program.keyTypeAt at hk
    simp only [hu] at hk
    unfold Program.keyLits
    simp only [hu]
    unfold litsD at h
    split at h
    · obtain ⟨b, rfl, hr⟩ := litK_bool h hx
      exact ⟨_, rfl, hr⟩
    · obtain ⟨n, rfl, hr, hw⟩ := litK_int h hx
      exact ⟨_, by simp [hw], hr⟩
    · obtain ⟨s, rfl, hr, hw⟩ := litK_str h hx
      exact ⟨_, by simp [hw], hr⟩
    · rename_i n e _
      obtain ⟨hb, h⟩ := bif_some h
      rw [beq_iff, lenL_eq, decide_eq_true_eq] at hb
      obtain ⟨s, hs, h⟩ := obind_inv h
      show ∃ M, (if xs.length = X.P.cellsOf t then _ else _) = some M ∧ _
      rw [if_pos (by rw [denL_length hx, hb, hcells t len hlen])]
      simp only at hk
      have := litsA_sound (f := X.P.keyLits d e) (fun hr hx => litsT_sound hc d hr hk hx) n h hx
      rw [hcells e s hs]
      exact this
    · rename_i fs _
      obtain ⟨hb, h⟩ := bif_some h
      rw [beq_iff, lenL_eq, decide_eq_true_eq] at hb
      simp only [Bool.and_eq_true, Array.all_eq_true'] at hk
      show ∃ M, (if xs.length = X.P.cellsOf t ∧ (fs.all fun x => x.name != "_") = true then _ else _) = some M ∧ _
      rw [if_pos ⟨by rw [denL_length hx, hb, hcells t len hlen], by
        rw [Array.all_eq_true']
        intro f hf
        exact (hk.1.1 f hf).1⟩]
      exact litsF_sound (g := X.P.keyLits d) hx hcells (fun fd hfd => fun hr hx => litsT_sound hc d hr (hk.1.1 fd (by simpa using hfd)).2 hx) h
    · cases h
theorem litsT_len (hc : CxOK X K w0) {d : Nat} {t : TypeId} {cs L : List AV} {xs : List Value} (h : litsT X.cx d t cs = some L) (hw : (match X.P.underlying t with | some (.array _ _) | some (.struct _) => true | _ => false) = true) (hx : denL E cs = some xs) :
    (Value.agg xs.toArray).formed X.P t = true := by
  cases d with
  | zero => cases h
  | succ d =>
    change obind (X.cx.und.get t) (fun dd => obind (X.cx.size.get t) fun len => litsD X.cx (litsT X.cx d) len cs dd) = some L at h
    obtain ⟨dd, hd, h⟩ := obind_inv h
    obtain ⟨len, hlen, h⟩ := obind_inv h
    have hu := hc.und t dd hd
    have hcells : X.P.cellsOf t = len := by
      obtain ⟨i, hi, hn⟩ := hc.size t len hlen
      simp [Program.cellsOf, hi, hn]
    rw [hu] at hw
    unfold litsD at h
    split at h
    · cases hw
    · cases hw
    · cases hw
    · obtain ⟨hb, h⟩ := bif_some h
      rw [beq_iff, lenL_eq, decide_eq_true_eq] at hb
      simp [Value.formed, hu, denL_length hx, hb, hcells]
    · obtain ⟨hb, h⟩ := bif_some h
      rw [beq_iff, lenL_eq, decide_eq_true_eq] at hb
      simp [Value.formed, hu, denL_length hx, hb, hcells]
    · cases h

/-! ### Lists of bytes -/
theorem leqL_eq : ∀ (a b : List Nat), leqL a b = decide (a = b)
  | [], [] => rfl
  | [], _ :: _ => rfl
  | _ :: _, [] => rfl
  | a :: l, b :: m => by
    simp only [leqL]
    rw [beq_iff]
    by_cases e : a = b
    · subst e; rw [decide_eq_true rfl, bif_true, leqL_eq l m]; simp
    · rw [decide_eq_false e, bif_false]; symm; rw [decide_eq_false_iff_not]; intro h; exact e (List.cons.inj h).1
theorem map_u8_inj : ∀ {a b : List Nat}, (∀ c ∈ a, c < 256) → (∀ c ∈ b, c < 256) → a.map UInt8.ofNat = b.map UInt8.ofNat → a = b
  | [], [], _, _, _ => rfl
  | [], _ :: _, _, _, h => by cases h
  | _ :: _, [], _, _, h => by cases h
  | x :: a, y :: b, h1, h2, h => by
    simp only [List.map_cons, List.cons.injEq] at h
    have e := congrArg UInt8.toNat h.1
    rw [toU8 (h1 x (by simp)), toU8 (h2 y (by simp))] at e
    rw [e, map_u8_inj (fun c hc => h1 c (List.mem_cons_of_mem _ hc)) (fun c hc => h2 c (List.mem_cons_of_mem _ hc)) h.2]

/-! ### Two cells -/
theorem brK_two {c : T} {y n : St → VC} {b : Bool} (h : (brK c st y n).holds Θ E.va R) (hf : FOK E.va st.facts) (hc : c.ev E.va = some (.b b)) :
    ∃ f, FOK E.va f ∧ ((b = true ∧ (y (st.withF f)).holds Θ E.va R) ∨ (b = false ∧ (n (st.withF f)).holds Θ E.va R)) := brK_inv h hf hc
theorem litRel_toT {ρ : Va} {a : AV} {p : IntKind × T} {l : Lit} (h : toT a = some p) (hl : litRel ρ a l) : ∃ n, l = .int p.1 n ∧ p.2.ev ρ = some (.i n) := by
  unfold toT at h
  split at h
  · cases h
    cases l <;> simp only [litRel] at hl
    exact ⟨_, by rw [hl.1], by rw [hl.2.1]; rfl⟩
  · cases h
    cases l <;> simp only [litRel] at hl
    exact ⟨_, by rw [hl.1], hl.2⟩
  · cases h
theorem eqAt_inv {a b : AV} {y n : St → VC} (h : (eqAt a b st y n).holds Θ E.va R) (hf : FOK E.va st.facts) {l m : Lit} (hl : litRel E.va a l) (hm : litRel E.va b m) :
    ∃ f, FOK E.va f ∧ ((l = m ∧ (y (st.withF f)).holds Θ E.va R) ∨ (l ≠ m ∧ (n (st.withF f)).holds Θ E.va R)) := by
  have self : ∀ {K : St → VC}, (K st).holds Θ E.va R → (K (st.withF st.facts)).holds Θ E.va R := fun h => by rw [withF_self]; exact h
  unfold eqAt at h
  split at h
  · rename_i a b
    cases l <;> simp only [litRel] at hl
    cases m <;> simp only [litRel] at hm
    subst hl; subst hm
    refine ⟨st.facts, hf, ?_⟩
    rw [bbeq_eq] at h
    rcases bif_holds h with ⟨e, h⟩ | ⟨e, h⟩
    · exact .inl ⟨by rw [of_decide_eq_true e], self h⟩
    · exact .inr ⟨fun h => by cases h; simp at e, self h⟩
  · rename_i a c
    cases l <;> simp only [litRel] at hl
    cases m <;> simp only [litRel] at hm
    subst hl
    cases a with
    | true =>
      obtain ⟨f, hf', h⟩ := brK_two h hf hm
      refine ⟨f, hf', h.imp (fun ⟨e, h⟩ => ⟨by rw [e], h⟩) (fun ⟨e, h⟩ => ⟨by rw [e]; simp, h⟩)⟩
    | false =>
      obtain ⟨f, hf', h⟩ := brK_two h hf hm
      refine ⟨f, hf', h.symm.imp (fun ⟨e, h⟩ => ⟨by rw [e], h⟩) (fun ⟨e, h⟩ => ⟨by rw [e]; simp, h⟩)⟩
  · rename_i c b
    cases l <;> simp only [litRel] at hl
    cases m <;> simp only [litRel] at hm
    subst hm
    cases b with
    | true =>
      obtain ⟨f, hf', h⟩ := brK_two h hf hl
      refine ⟨f, hf', h.imp (fun ⟨e, h⟩ => ⟨by rw [e], h⟩) (fun ⟨e, h⟩ => ⟨by rw [e]; simp, h⟩)⟩
    | false =>
      obtain ⟨f, hf', h⟩ := brK_two h hf hl
      refine ⟨f, hf', h.symm.imp (fun ⟨e, h⟩ => ⟨by rw [e], h⟩) (fun ⟨e, h⟩ => ⟨by rw [e]; simp, h⟩)⟩
  · rename_i c d
    cases l <;> simp only [litRel] at hl
    cases m <;> simp only [litRel] at hm
    obtain ⟨f, hf', h⟩ := brK_two h hf hl
    rcases h with ⟨e, h⟩ | ⟨e, h⟩
    · obtain ⟨g, hg, h⟩ := brK_inv h (by rw [withF_facts]; exact hf') hm
      simp only [withF_withF] at h
      exact ⟨g, hg, h.imp (fun ⟨e', h⟩ => ⟨by rw [e, e'], h⟩) (fun ⟨e', h⟩ => ⟨by rw [e, e']; simp, h⟩)⟩
    · obtain ⟨g, hg, h⟩ := brK_inv h (by rw [withF_facts]; exact hf') hm
      simp only [withF_withF] at h
      exact ⟨g, hg, h.symm.imp (fun ⟨e', h⟩ => ⟨by rw [e, e'], h⟩) (fun ⟨e', h⟩ => ⟨by rw [e, e']; simp, h⟩)⟩
  · rename_i j a kd b
    cases l <;> simp only [litRel] at hl
    cases m <;> simp only [litRel] at hm
    obtain ⟨hk, h1⟩ := vif_inv h
    have hjk := kbeq_eq hk
    subst hjk
    obtain ⟨rfl, rfl, ha⟩ := hl
    obtain ⟨rfl, rfl, hb⟩ := hm
    refine ⟨st.facts, hf, ?_⟩
    rw [beq_iff] at h1
    rcases bif_holds h1 with ⟨e, h2⟩ | ⟨e, h2⟩
    · exact .inl ⟨by rw [of_decide_eq_true e], self h2⟩
    · exact .inr ⟨fun hh => of_decide_eq_false e (sgn_inj _ ha hb (by injection hh)), self h2⟩
  · rename_i s _ t
    cases l <;> simp only [litRel] at hl
    cases m <;> simp only [litRel] at hm
    obtain ⟨rfl, ha⟩ := hl
    obtain ⟨rfl, hb⟩ := hm
    refine ⟨st.facts, hf, ?_⟩
    rw [leqL_eq] at h
    rcases bif_holds h with ⟨e, h⟩ | ⟨e, h⟩
    · exact .inl ⟨by rw [of_decide_eq_true e], self h⟩
    · exact .inr ⟨fun hh => of_decide_eq_false e (map_u8_inj ha hb (by injection hh)), self h⟩
  · obtain ⟨p, hp, h⟩ := vbind_inv h
    obtain ⟨q, hq, h⟩ := vbind_inv h
    obtain ⟨hk, h⟩ := vif_inv h
    obtain ⟨n1, rfl, e1⟩ := litRel_toT hp hl
    obtain ⟨n2, rfl, e2⟩ := litRel_toT hq hm
    rw [kbeq_eq hk]
    obtain ⟨f, hf', h⟩ := brK_inv h hf (r := decide (n1 = n2)) (by rw [mkCmp_ev e1 e2]; rfl)
    exact ⟨f, hf', h.imp (fun ⟨e, h⟩ => ⟨by rw [of_decide_eq_true e], h⟩) (fun ⟨e, h⟩ => ⟨fun h => of_decide_eq_false e (by cases h; rfl), h⟩)⟩
theorem eqAts_inv : ∀ {a b : List AV} {st : St} {y n : St → VC}, (eqAts a b st y n).holds Θ E.va R → FOK E.va st.facts → ∀ {l m : List Lit}, litRels E.va a l → litRels E.va b m →
    ∃ f, FOK E.va f ∧ ((l = m ∧ (y (st.withF f)).holds Θ E.va R) ∨ (l ≠ m ∧ (n (st.withF f)).holds Θ E.va R))
  | [], [], st, y, n, h, hf, [], [], _, _ => ⟨st.facts, hf, .inl ⟨rfl, by rw [withF_self]; exact h⟩⟩
  | [], _ :: _, st, y, n, h, _, _, _, _, _ => h.elim
  | _ :: _, [], st, y, n, h, _, _, _, _, _ => h.elim
  | a :: x, b :: z, st, y, n, h, hf, l :: ls, m :: ms, h1, h2 => by
    change (eqAt a b st (fun st => eqAts x z st y n) n).holds Θ E.va R at h
    obtain ⟨f, hf', h⟩ := eqAt_inv h hf h1.1 h2.1
    rcases h with ⟨e, h⟩ | ⟨e, h⟩
    · obtain ⟨g, hg, h⟩ := eqAts_inv h (by rw [withF_facts]; exact hf') h1.2 h2.2
      simp only [withF_withF] at h
      exact ⟨g, hg, h.imp (fun ⟨e', h⟩ => ⟨by rw [e, e'], h⟩) (fun ⟨e', h⟩ => ⟨fun hh => e' (List.cons.inj hh).2, h⟩)⟩
    · exact ⟨f, hf', .inr ⟨fun hh => e (List.cons.inj hh).1, h⟩⟩
  | [], [], _, _, _, _, _, _ :: _, _, h, _ => h.elim
  | [], [], _, _, _, _, _, [], _ :: _, _, h => h.elim
  | _ :: _, _ :: _, _, _, _, _, _, [], _, h, _ => h.elim
  | _ :: _, _ :: _, _, _, _, _, _, _ :: _, [], _, h => h.elim

theorem binAgg_inv (hc : CxOK X K w0) {op : BinOp} {t : TypeId} {l m : List AV} (h : (binAgg X.cx op t l m st k).holds Θ E.va R) (hf : FOK E.va st.facts) (hl : okv E (.agg l)) (hm : okv E (.agg m)) (xo yo : Operand) :
    Bin2Out X.P Θ R E st k (.agg l) (.agg m) (opRun op t xo yo) := by
  obtain ⟨d, hd, h⟩ := vbind_inv h
  obtain ⟨la, hla, h⟩ := vbind_inv h
  obtain ⟨lb, hlb, h⟩ := vbind_inv h
  obtain ⟨hk, hgt, hle, hw⟩ := hc.eqm t d hd
  obtain ⟨_, hl⟩ := hl
  obtain ⟨xs0, hxs0, _⟩ := den_agg hl
  obtain ⟨_, hm⟩ := hm
  obtain ⟨ys0, hys0, _⟩ := den_agg hm
  obtain ⟨L, _, r1⟩ := litsT_sound hc d hla hk hxs0
  obtain ⟨M, _, r2⟩ := litsT_sound hc d hlb hk hys0
  have hva : E.fill.va = E.va := rfl
  rw [hva] at r1 r2
  have fin : ∀ {r : Bool} {v : AV}, (r = true ↔ L = M) → binFn op r = some v → Bin2 X.P E v (.agg l) (.agg m) (opRun op t xo yo) := by
    intro r v hr hv E' x y hE hx hy
    obtain ⟨xs, hxs, rfl⟩ := den_agg hx
    obtain ⟨ys, hys, rfl⟩ := den_agg hy
    obtain ⟨L', h1, r1'⟩ := litsT_sound hc d hla hk hxs
    obtain ⟨M', h2, r2'⟩ := litsT_sound hc d hlb hk hys
    have e1 := litRels_same r1' (litRels_mono hE.va r1)
    have e2 := litRels_same r2' (litRels_mono hE.va r2)
    subst e1; subst e2
    have heq : ∀ w, (Op.equal t (.agg xs.toArray) (.agg ys.toArray)).run X.P w = .ok r w := by
      intro w
      obtain ⟨r', hr', hiff⟩ := run_equalIn_deep (10000 - d) d t hk w d d (.agg xs.toArray) (.agg ys.toArray) _ _ (litsT_len hc hla hw hxs) (litsT_len hc hlb hw hys) (by simpa [Value.cells] using h1) (by simpa [Value.cells] using h2)
      have : r' = r := by rw [Bool.eq_iff_iff, hiff, hr]
      rw [← this]
      have e : 10000 - d + d = 10000 := by omega
      rw [e] at hr'
      exact hr'
    obtain ⟨b, rfl, _⟩ := binFn_run hv (P := X.P) (p := .agg xs.toArray) (q := .agg ys.toArray) (w := default) (.inr ⟨_, rfl⟩) (heq _)
    refine ⟨_, rfl, fun w => ?_⟩
    obtain ⟨b', e, hrun⟩ := binFn_run hv (P := X.P) (p := .agg xs.toArray) (q := .agg ys.toArray) (w := w) (.inr ⟨_, rfl⟩) (heq w)
    cases e
    have hg : (eqGuard op t xo yo (.agg xs.toArray) (.agg ys.toArray)).run X.P w = .ok () w := by
      unfold eqGuard
      cases op <;> simp [program, Sem.run, hgt]
    simp only [opRun, Sem.run_bind, hg, Result.andThen_ok, hrun]
  obtain ⟨f, hf', h⟩ := eqAts_inv h hf r1 r2
  rcases h with ⟨e, h⟩ | ⟨e, h⟩
  · obtain ⟨v, hv, h⟩ := outK_inv h
    exact ⟨v, f, h, hf', fin (r := true) ⟨fun _ => e, fun _ => rfl⟩ hv⟩
  · obtain ⟨v, hv, h⟩ := outK_inv h
    exact ⟨v, f, h, hf', fin (r := false) ⟨fun h => (by cases h), fun h => absurd h e⟩ hv⟩
end
end Go.Sy
