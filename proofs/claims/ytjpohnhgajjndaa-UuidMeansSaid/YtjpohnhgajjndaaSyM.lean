import Derived.Test.YtjpohnhgajjndaaSyS
/-! Operations that may come late. -/
namespace Go.Sy
section
variable {X : Tabs} {K : Nat → Prop} {w0 : World} {E : Env} {st : St} {w : World} {Θ : Pred} {R : List Back} {tm : Tm} {k : Kt} {o : Oper}

/-- What an operation laid aside is still as it was. -/
def Held (n n' : Nat) (st' : St) (E'' : Env) (st'' : St) : Prop := ∀ k, n ≤ k → k < n' → E''.m[k]? = some none ∧ st''.heap.get k = st'.heap.get k ∧ st''.x.objs.get k = st'.x.objs.get k
/-- Whenever it comes, it yields v's value. -/
def Late (X : Tabs) (K : Nat → Prop) (w0 : World) (o : Oper) (tm : Tm) (bo : BOp) (v : AV) (E E' : Env) (st' : St) : Prop :=
  ∀ E'' st'' w'' ρ, E'.Le E'' → Held E.m.length E'.m.length st' E'' st'' → StRel X K w0 E'' st'' w'' → Rd E'' tm ρ o.op.operands.toList → (∀ n a, bo = .load n a → ∀ x, asPtr (ev tm a) = some x → loadVar X.cx st'' n x = some v) →
    ∃ E3 y w3, E''.Le E3 ∧ E3.va = E''.va ∧ (execOp ρ o).run X.P w'' = .ok (.value y) w3 ∧ StRel X K w0 E3 st'' w3 ∧ v.den E3 = some y ∧ ∀ j, (j < E.m.length ∨ E'.m.length ≤ j) → E''.m[j]? = some none → E3.m[j]? = some none
def KeepH (st st' : St) : Prop := ∀ k b, st.heap.get k = some b → st'.heap.get k = some b
/-- What is new has no place yet. -/
def NewH (E E' : Env) : Prop := ∀ k, E.m.length ≤ k → k < E'.m.length → E'.m[k]? = some none
theorem NewH.refl (E : Env) : NewH E E := fun k h h' => absurd h' (by omega)
theorem NewH.push (E : Env) : NewH E (E.push none) := fun k h h' => by
  have : k = E.m.length := by simp [Env.push] at h'; omega
  subst this; exact push_new E none
/-- What was loaded stands there. -/
def LdNow (X : Tabs) (tm : Tm) (bo : BOp) (v : AV) (st : St) : Prop := ∀ n a, bo = .load n a → ∀ x, asPtr (ev tm a) = some x → loadVar X.cx st n x = some v
theorem LdNow.of {bo : BOp} {v : AV} (h : ∀ n a, bo ≠ .load n a) : LdNow X tm bo v st := fun n a e => absurd e (h n a)
def MovOut (X : Tabs) (K : Nat → Prop) (w0 : World) (Θ : Pred) (R : List Back) (E : Env) (o : Oper) (tm : Tm) (bo : BOp) (st : St) (w : World) (k : Kt) : Prop :=
  ∃ v st' E', (k v st').holds Θ E'.va R ∧ E.Le E' ∧ StRel X K w0 E' st' w ∧ HP E E' st st' ∧ okv E' v ∧ KeepH st st' ∧ NewH E E' ∧ LdNow X tm bo v st' ∧ Late X K w0 o tm bo v E E' st'

theorem ValOut.mov {bo : BOp} (h : ValOut X Θ R E o tm st k) (hS : StRel X K w0 E st w) (hO : Oks E tm) (hbo : ∀ n a, bo ≠ .load n a := by intro _ _ hh; cases hh) : MovOut X K w0 Θ R E o tm bo st w k := by
  obtain ⟨v, f, h1, h2, h3⟩ := h
  refine ⟨v, st.withF f, E, h1, .refl _, hS.withF h2, hp_withF _ _ _, ?_, fun k b hb => by rw [withF_heap]; exact hb, .refl E, .of hbo, fun E'' st'' w'' ρ hE _ hS'' hR _ => ?_⟩
  · obtain ⟨ρ, hR⟩ := hO.rd o.op.operands.toList
    obtain ⟨y, hy, _⟩ := h3 E.fill ρ E.le_fill hR
    exact ⟨y, hy⟩
  · obtain ⟨y, hy, hrun⟩ := h3 E'' ρ hE hR
    exact ⟨E'', y, w'', .refl _, rfl, hrun w'', hS'', hy, fun _ _ h => h⟩

/-! ### Loads -/
theorem readB_okv (hc : CxOK X K w0) (hS : StRel X K w0 E st w) {b : Bid} {i : Nat} {v : AV} (h : readB X.cx st i b = some v) : okv E v := by
  cases b with
  | g n =>
    obtain ⟨t, ht, h⟩ := obind_inv h
    obtain ⟨x, h1, _⟩ := (hc.glob n t ht).2 _ v h
    exact ⟨x, h1 _⟩
  | r j =>
    obtain ⟨bl, hbl, h⟩ := obind_inv h
    rcases hS.blks j bl hbl with h0 | ⟨id, sh, cs, el, fr, _, _, hr⟩
    · exact h0.2.2 _ v h
    · obtain ⟨x, h1, _⟩ := hr.cells _ v h; exact okv_of h1
theorem okl_of {l : List AV} (h : ∀ v ∈ l, okv E v) : ∃ xs, denL E.fill l = some xs := by
  induction l with
  | nil => exact ⟨[], rfl⟩
  | cons v l ih =>
    obtain ⟨x, hx⟩ := h v (by simp)
    obtain ⟨xs, hxs⟩ := ih fun u hu => h u (List.mem_cons_of_mem _ hu)
    exact ⟨x :: xs, denL_cons.2 ⟨x, xs, hx, hxs, rfl⟩⟩
theorem cellsFrom_okv (hc : CxOK X K w0) (hS : StRel X K w0 E st w) {b : Bid} {n i : Nat} {l : List AV} (h : cellsFrom X.cx st n i b = some l) : ∀ v ∈ l, okv E v := by
  intro v hv
  obtain ⟨j, hj⟩ := List.getElem?_of_mem hv
  exact readB_okv hc hS ((cellsFrom_spec h).2 j v hj)
theorem loadVar_okv (hc : CxOK X K w0) (hS : StRel X K w0 E st w) {n : Option Nat} {x : AAddr} {v : AV} (h : loadVar X.cx st n x = some v) : okv E v := by
  cases n with
  | none => exact readB_okv hc hS (b := x.b) (i := x.off) h
  | some n =>
    obtain ⟨l, hl, h⟩ := obind_inv h
    cases h
    obtain ⟨xs, hxs⟩ := okl_of (cellsFrom_okv hc hS hl)
    exact ⟨_, den_agg_of hxs⟩
theorem load_out (hc : CxOK X K w0) (hS : StRel X K w0 E st w) {t : TypeId} {x : Operand} {g : Option Nat} {b : BO} (hb : cO x = some b) (hg : aggN X.cx.und X.cx.size t = some g) (ho : o.op = .load t x) (h : (xLoad X.cx g st k (ev tm b)).holds Θ E.va R) : MovOut X K w0 Θ R E o tm (.load g b) st w k := by
  obtain ⟨a, ha, h⟩ := vbind_inv h
  obtain ⟨v, hv, h⟩ := outK_inv h
  refine ⟨v, st, E, h, .refl _, hS, .refl _ _, loadVar_okv hc hS hv, fun _ _ h => h, .refl E, fun n' a' e x hx => (by cases e; rw [ha] at hx; cases hx; exact hv), fun E'' st'' w'' ρ hE _ hS'' hR hl => ?_⟩
  have hv' := hl g b rfl a ha
  have hx := hR.get (x := x) (by rw [ho]; simp [Op.operands]) hb
  rw [asPtr_inv ha] at hx
  obtain ⟨ad, had, e0⟩ := den_ptr hx
  obtain ⟨y, hy, hrun⟩ := loadVar_sound hc hS'' hg hv' had
  exact ⟨E'', y, w'', .refl _, rfl, by simp [execOp, ho, e0, Instr.loadAt, Instr.sureAddr, hrun], hS'', hy, fun _ _ h => h⟩

/-! ### New blocks -/
noncomputable def St.blk (st : St) (b : Blk) : St := ⟨st.n + 1, st.nc, st.heap.set st.n (some b), st.live, st.x⟩
theorem newBlk_eq (st : St) (sz : Nat) (t : Tr AV) (z : List AV) (zn : Nat) (F : Nat → St → VC) (cv es : Nat) : newBlk st sz t z zn F cv es = F st.n (st.blk ⟨sz, t, z, zn, st.n, cv, es⟩) := by
  obtain ⟨n, nc, h, l, x⟩ := st
  show h.setK n _ _ = _
  rw [Tr.setK_eq, natK_eq]; rfl
theorem newCells_eq (st : St) (cs : List AV) (F : Nat → St → VC) (cv es : Nat) : newCells st cs F cv es = F st.n (st.blk ⟨lenL cs, puts cs 0 .nil, [], 0, st.n, cv, es⟩) := by
  unfold newCells
  rw [putsK_eq, natK_eq, newBlk_eq]
theorem blk_n (hS : StRel X K w0 E st w) (p : Option (Nat × Nat)) : (E.push p).m[st.n]? = some p := by rw [← hS.n_eq]; exact push_new E p
theorem hp_blk (hS : StRel X K w0 E st w) (b : Blk) (p : Option (Nat × Nat)) : HP E (E.push p) st (st.blk b) :=
  hp_push E p hS.n_eq (fun k hk => by show (st.heap.set st.n (some b)).get k = _; rw [Tr.get_set_other _ _ (by omega)]) (fun _ _ => rfl) rfl
/-- Something new, now or late. -/
theorem new_out {bo : BOp} (hS : StRel X K w0 E st w) {b : Blk} {v : AV} (hfam : b.fam = st.n) (hcv : b.cv = 0) (hok : ∀ i u, b.cell i = some u → okv (E.push none) u) (hv : okv (E.push none) v) (hh : (k v (st.blk b)).holds Θ E.va R)
    (hrun : ∀ E'' w'' ρ, E.Le E'' → Rd E'' tm ρ o.op.operands.toList → E''.m[st.n]? = some none → ∃ ys el y, (execOp ρ o).run X.P w'' = .ok (.value y) (w''.alloc (.cells ys el)) ∧ BlkRel (E''.set st.n (w''.heap.size, 0)) b 0 ys (0, 0) ∧ v.den (E''.set st.n (w''.heap.size, 0)) = some y)  (hbo : ∀ n a, bo ≠ .load n a := by intro _ _ hh; cases hh) :
    MovOut X K w0 Θ R E o tm bo st w k := by
  have hS' : StRel X K w0 (E.push none) (st.blk b) w := hS.newCells hfam (.inl ⟨rfl, rfl, hcv, hok⟩)
  refine ⟨v, st.blk b, E.push none, hh, E.le_push none, hS', hp_blk hS b none, hv, fun j bj hj => ?_, .push E, .of hbo, fun E'' st'' w'' ρ hE hH hS'' hR _ => ?_⟩
  · have := (hS.lt j bj hj).1
    show (st.heap.set st.n (some b)).get j = _
    rw [Tr.get_set_other _ _ (by omega)]; exact hj
  · have hlen : (E.push none).m.length = st.n + 1 := by simp [Env.push, hS.n_eq]
    obtain ⟨h1, h2, h3⟩ := hH st.n (by rw [hS.n_eq]; exact Nat.le_refl _) (by omega)
    obtain ⟨ys, el, y, g1, g2, g3⟩ := hrun E'' w'' ρ ((E.le_push none).trans hE) hR h1
    refine ⟨E''.set st.n (w''.heap.size, 0), y, _, Env.le_set h1, rfl, g1, hS''.fill h1 _ (fun b' hb' => ?_) (fun o' ho' => ?_), g3, fun j hj hn => ?_⟩
    · rw [h2] at hb'
      have : (st.heap.set st.n (some b)).get st.n = some b' := hb'
      rw [Tr.get_set_same] at this
      cases this
      exact ⟨hfam, ys, el, rfl, g2⟩
    · rw [h3] at ho'
      have : st.x.objs.get st.n = some o' := ho'
      exact absurd (hS.objs _ _ this).1 (Nat.lt_irrefl _)
    · rw [set_other]; exact hn
      rw [hlen, hS.n_eq] at hj; omega
theorem set_new {E : Env} {k : Nat} {p : Nat × Nat} (h : E.m[k]? = some none) : (E.set k p).m[k]? = some (some p) := set_same (List.getElem?_eq_some_iff.1 h).1
theorem ptr_okv (hS : StRel X K w0 E st w) : okv (E.push none) (.ptr (some ⟨.r st.n, 0⟩)) := by
  refine ⟨.pointer (some ⟨0, 0 + 0, none⟩), den_ptr_of (aden_r_of (p := (0, 0)) ?_)⟩
  rw [fill_get, blk_n hS]; rfl
theorem ptr_den {E'' : Env} {j id : Nat} (h : E''.m[j]? = some none) : (AV.ptr (some ⟨.r j, 0⟩)).den (E''.set j (id, 0)) = some (.pointer (some ⟨id, 0, none⟩)) := by
  rw [den_ptr_of (aden_r_of (set_new h))]; rfl
theorem slice_okv (hS : StRel X K w0 E st w) {l c : Nat} (h : l ≤ c) : okv (E.push none) (.slice (some ⟨.r st.n, 0⟩) l (.k c)) := by
  have : aden (E.push none).fill ⟨.r st.n, 0⟩ = some ⟨0, 0 + 0, none⟩ := aden_r_of (p := (0, 0)) (by rw [fill_get, blk_n hS]; rfl)
  exact ⟨.slice (some ⟨0, 0 + 0, none⟩) l c, by simp only [AV.den, this, cden]; rw [if_pos h]⟩
theorem slice_den {E'' : Env} {j id l c : Nat} (h : E''.m[j]? = some none) (hle : l ≤ c) : (AV.slice (some ⟨.r j, 0⟩) l (.k c)).den (E''.set j (id, 0)) = some (.slice (some ⟨id, 0, none⟩) l c) := by
  have : aden (E''.set j (id, 0)) ⟨.r j, 0⟩ = some ⟨id, 0 + 0, none⟩ := aden_r_of (set_new h)
  simp only [AV.den, this, cden]; rw [if_pos hle]
/-- A block of cells that are listed. -/
theorem blkRel_list {E : Env} {cs : List AV} {ys : Array Value} {n cv es : Nat} {xs : List Value} (hx : denL E cs = some xs) (hy : ∀ (i : Nat) (y : Value), xs[i]? = some y → ys[i]? = some y) (hcap : ∀ i, cv = i + 1 → ∃ c, E.caps[i]? = some c ∧ c * es ≤ ys.size ∧ xs.length ≤ c * es) : BlkRel E ⟨lenL cs, puts cs 0 .nil, [], 0, n, cv, es⟩ 0 ys (0, 0) := by
  have hl := denL_length hx
  have hcell : ∀ i v, (⟨lenL cs, puts cs 0 .nil, [], 0, n, cv, es⟩ : Blk).cell i = some v → cs[i]? = some v := by
    intro i v hv
    rw [cell_eq] at hv
    simp only [puts_get] at hv
    by_cases c : 0 ≤ i ∧ i < 0 + cs.length
    · rw [if_pos c, Nat.sub_zero] at hv
      cases hci : cs[i]? with
      | none => rw [List.getElem?_eq_none_iff] at hci; omega
      | some u => rw [hci] at hv; exact hv
    · rw [if_neg c] at hv
      simp at hv
  refine ⟨.inl rfl, ?_, fun i v hv => ?_, fun i hi => ?_, fun i v hv => ?_⟩
  · show lenL cs + 0 ≤ ys.size
    rw [lenL_eq, ← hl, Nat.add_zero]
    rcases Nat.eq_zero_or_pos xs.length with e | e
    · omega
    · have h1 : xs.length - 1 < xs.length := by omega
      have := (Array.getElem?_eq_some_iff.1 (hy _ _ (List.getElem?_eq_getElem h1))).1
      omega
  · have hv' : (puts cs 0 .nil).get i = some v := hv
    rw [puts_get] at hv'
    show i < lenL cs
    rw [lenL_eq]
    split at hv'
    · omega
    · simp at hv'
  · obtain ⟨c, h1, h2, h3⟩ := hcap i hi
    exact ⟨c, h1, by rw [Nat.add_zero]; exact h2, by show lenL cs ≤ _; rw [lenL_eq, ← hl]; exact h3⟩
  · obtain ⟨y, h1, h2⟩ := denL_get hx (hcell i v hv)
    exact ⟨y, h1, hy i y h2⟩
theorem list_okv {cs : List AV} {n cv es : Nat} (h : ∀ v ∈ cs, okv E v) : ∀ i u, (⟨lenL cs, puts cs 0 .nil, [], 0, n, cv, es⟩ : Blk).cell i = some u → okv E u := by
  intro i u hu
  rw [cell_eq] at hu
  simp only [puts_get] at hu
  by_cases c : 0 ≤ i ∧ i < 0 + cs.length
  · rw [if_pos c, Nat.sub_zero] at hu
    cases hci : cs[i]? with
    | none => rw [List.getElem?_eq_none_iff] at hci; omega
    | some v => rw [hci] at hu; cases hu; exact h u (List.mem_of_getElem? hci)
  · rw [if_neg c] at hu
    simp at hu
/-- A block all of whose cells are first values. -/
theorem eqAV_eq {a b : AV} (h : eqAV a b = true) : a = b := by
  unfold eqAV at h
  split at h
  · rw [Bool.and_eq_true, beq_iff, decide_eq_true_eq] at h
    rw [kbeq_eq h.1, h.2]
  · rw [bbeq_eq, decide_eq_true_eq] at h; rw [h]
  · cases h
theorem allSame_mem {v : AV} : ∀ {l : List AV}, allSame v l = true → ∀ u ∈ l, u = v
  | [], _, u, hu => by cases hu
  | x :: l, h, u, hu => by
    obtain ⟨h1, h2⟩ : eqAV v x = true ∧ allSame v l = true := by
      change bif_ (eqAV v x) (allSame v l) false = true at h
      cases e : eqAV v x with
      | true => rw [e] at h; exact ⟨rfl, h⟩
      | false => rw [e] at h; cases h
    cases hu with
    | head => exact (eqAV_eq h1).symm
    | tail _ hu => exact allSame_mem h2 u hu
theorem uni_get {z : List AV} {i : Nat} {u : AV} (hz : 0 < z.length) (h : (uni z)[i % (uni z).length]? = some u) : z[i % z.length]? = some u := by
  cases z with
  | nil => simp at hz
  | cons v l =>
    simp only [uni] at h
    cases e : allSame v l with
    | false => rw [e] at h; exact h
    | true =>
      rw [e, bif_true] at h
      simp [Nat.mod_one] at h
      subst h
      have hlt : i % (v :: l).length < (v :: l).length := Nat.mod_lt _ hz
      rw [List.getElem?_eq_getElem hlt]
      congr 1
      have := List.getElem_mem hlt
      cases this' : (v :: l)[i % (v :: l).length] with
      | _ => 
        rw [this'] at this
        cases this with
        | head => rfl
        | tail _ hm => exact allSame_mem e _ hm
theorem uni_len (z : List AV) : (uni z).length = 0 ↔ z.length = 0 := by
  cases z with
  | nil => simp [uni]
  | cons v l =>
    simp only [uni]
    cases allSame v l <;> simp
theorem zcell {sz : Nat} {z : List AV} {n cv es : Nat} {i : Nat} {u : AV} (h : (⟨sz, .nil, uni z, lenL (uni z), n, cv, es⟩ : Blk).cell i = some u) : i < sz ∧ 0 < z.length ∧ z[i % z.length]? = some u := by
  rw [cell_eq] at h
  simp only [Tr.get_nil] at h
  split at h
  · rename_i hlt
    rw [lenL_eq] at h
    split at h
    · cases h
    · rename_i j hj
      have hz : 0 < z.length := by
        rcases Nat.eq_zero_or_pos z.length with e | e
        · rw [(uni_len z).2 e] at hj; cases hj
        · exact e
      rw [show j + 1 = (uni z).length from hj.symm] at h
      exact ⟨hlt, hz, uni_get hz h⟩
  · cases h
theorem zero_okv {sz : Nat} {z : List AV} {n cv es : Nat} {v : Value} (hz : ∀ E, denL E z = some v.cells.toList) : ∀ i u, (⟨sz, .nil, uni z, lenL (uni z), n, cv, es⟩ : Blk).cell i = some u → okv E u := by
  intro i u hu
  obtain ⟨_, _, h⟩ := zcell hu
  obtain ⟨y, hy, _⟩ := denL_get (hz E.fill) h
  exact ⟨y, hy⟩
theorem blkRel_zero {sz : Nat} {z : List AV} {n es : Nat} {v : Value} {ys : Array Value} (hz : ∀ E, denL E z = some v.cells.toList) (hroom : sz ≤ ys.size) (hy : ∀ i, i < sz → ys[i]? = v.cells[i % v.cells.size]?) : BlkRel E ⟨sz, .nil, uni z, lenL (uni z), n, 0, es⟩ 0 ys (0, 0) := by
  refine ⟨.inl rfl, hroom, fun i v hv => (by simp at hv), fun i hi => (by cases hi), fun i u hu => ?_⟩
  obtain ⟨h1, h2, h3⟩ := zcell hu
  obtain ⟨y, g1, g2⟩ := denL_get (hz E) h3
  refine ⟨y, g1, ?_⟩
  have hl := denL_length (hz E)
  rw [Nat.add_zero, hy i h1]
  simp at hl
  rw [hl]; simpa using g2

theorem alloc_out {bo : BOp} (hc : CxOK X K w0) (hS : StRel X K w0 E st w) {t : TypeId} {z : List AV} (hz : X.cx.zero.get t = some z) (ho : o.op = .alloc t) (h : (newBlk st (lenL z) .nil (uni z) (lenL (uni z)) (newPtr k)).holds Θ E.va R) (hbo : ∀ n a, bo ≠ .load n a := by intro _ _ hh; cases hh) : MovOut X K w0 Θ R E o tm bo st w k := by
  rw [newBlk_eq] at h
  obtain ⟨i, v, h1, h2, h3, h4, h5, h6⟩ := hc.zero t z hz
  have hl := denL_length (h5 E)
  refine new_out (hbo := hbo) (v := .ptr (some ⟨.r st.n, 0⟩)) hS rfl rfl (zero_okv h5) (ptr_okv hS) h fun E'' w'' ρ _ _ hn => ⟨v.cells, t, _, ?_, blkRel_zero h5 ?_ fun i hi => ?_, ptr_den hn⟩
  · simp [execOp, ho, Instr.alloc, zeroValue, typeInfo, h1, h2, newVar, newRow, Sem.run, program]
  · rw [lenL_eq, ← hl]; simp
  · rw [lenL_eq] at hi
    rw [Nat.mod_eq_of_lt]
    simp at hl; omega
theorem box_out {bo : BOp} (hS : StRel X K w0 E st w) (hO : Oks E tm) {t : TypeId} {x : Operand} {b : BO} (hb : cO x = some b) (ho : o.op = .box t x) (h : (newCells st (ev tm b).cells (newPtr k)).holds Θ E.va R) (hbo : ∀ n a, bo ≠ .load n a := by intro _ _ hh; cases hh) : MovOut X K w0 Θ R E o tm bo st w k := by
  rw [newCells_eq] at h
  have hcells : ∀ u ∈ (ev tm b).cells, okv (E.push none) u := by
    obtain ⟨y, hy⟩ := (hO.ev hb).mono (E.le_push none)
    obtain ⟨xs, hxs, _⟩ := den_cells hy
    intro u hu
    obtain ⟨j, hj⟩ := List.getElem?_of_mem hu
    obtain ⟨y, h1, _⟩ := denL_get hxs hj
    exact ⟨y, h1⟩
  refine new_out (hbo := hbo) (v := .ptr (some ⟨.r st.n, 0⟩)) hS rfl rfl (list_okv hcells) (ptr_okv hS) h fun E'' w'' ρ _ hR hn => ?_
  have hx := hR.get (x := x) (by rw [ho]; simp [Op.operands]) hb
  obtain ⟨xs, hxs, hcs⟩ := den_cells (den_mono (E''.le_set (id := w''.heap.size) hn) _ hx)
  refine ⟨(ρ x).cells, t, _, ?_, blkRel_list hxs (fun i y hy => by rw [← hcs] at hy; simpa using hy) (fun i hi => (by cases hi)), ptr_den hn⟩
  simp [execOp, ho, Instr.box, newVar, newRow]
end
end Go.Sy
