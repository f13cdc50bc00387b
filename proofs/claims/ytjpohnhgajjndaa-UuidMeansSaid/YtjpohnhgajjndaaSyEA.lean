import Derived.Test.YtjpohnhgajjndaaSyE
/-! Stores, append, copy, texts. -/
namespace Go.Sy
section
variable {X : Tabs} {K : Nat → Prop} {w0 : World} {E : Env} {st : St} {w : World} {Θ : Pred} {R : List Back} {tm : Tm} {k : Kt} {o : Oper}

theorem store_out (hc : CxOK X K w0) (hS : StRel X K w0 E st w) {t : TypeId} {a x : Operand} {n : Nat} {ba bx : BO} (hn : X.cx.size.get t = some n) (ha : cO a = some ba) (hx : cO x = some bx) (ho : o.op = .store t a x)
    (h : (xStore n (ev tm bx) st k (ev tm ba)).holds Θ E.va R) : EffOut X K w0 Θ R E o tm st w k := by
  intro ρ hR
  obtain ⟨ad, had, h⟩ := vbind_inv h
  have h1 := hR.get (x := a) (by rw [ho]; simp [Op.operands]) ha
  have h2 := hR.get (x := x) (by rw [ho]; simp [Op.operands]) hx
  rw [asPtr_inv had] at h1
  obtain ⟨p, hp, e1⟩ := den_ptr h1
  obtain ⟨st', w', g1, g2, g3, g4⟩ := storeAt_sound hc hS hn h h2 hp
  have hrun : (execOp ρ o).run X.P w = .ok .skip w' := by simp [execOp, ho, e1, Instr.storeAt, Instr.sureAddr, g2]
  rw [hrun]
  exact ⟨_, st', E, R, List.prefix_rfl, g1, .refl E, g3, g4, rfl⟩

/-- What operands of a builtin are. -/
theorem barg {b : Builtin} {args : Array Operand} {tys : Array TypeId} {bs : List BO} (ho : o.op = .call ⟨.builtin b, args, tys⟩) (hb : cOs args.toList = some bs) {ρ : Operand → Value} (hR : Rd E tm ρ o.op.operands.toList) {i : Nat} {bx : BO} (hx : getL i bs = some bx) :
    ∃ y, (ev tm bx).den E = some y ∧ (args.map ρ)[i]? = some y := by
  obtain ⟨x, hx1, hx2⟩ := cOs_get hb (by rw [getL_eq] at hx; exact hx)
  refine ⟨ρ x, hR.get (x := x) ?_ hx2, ?_⟩
  · rw [ops_call ho]; exact List.mem_of_getElem? hx1
  · have : args[i]? = some x := by simpa using hx1
    simp [this]

theorem lenOf_sound {x : AV} {m : Nat} (h : lenOf x = some m) {y : Value} (hy : x.den E = some y) (w : World) : (Builtin.lenOf y).run X.P w = .ok m w := by
  unfold lenOf at h
  split at h
  · cases h
    obtain ⟨ad, cp, rfl, _⟩ := den_slice' hy
    rfl
  · cases h
    obtain ⟨_, _, _, _, _, rfl⟩ := den_sl0 hy
    rfl
  · cases h
    obtain ⟨h1, _, rfl⟩ := den_str hy
    show Result.ok _ _ = _
    rw [bytesOf_size, ← h1]
  · cases h
theorem denL_bytes : ∀ {l : List Nat}, (∀ c ∈ l, c < 256) → denL E (byteAVs l) = some (l.map fun c => .int .u8 (c : Int))
  | [], _ => rfl
  | c :: l, h => by
    have hc := h c (by simp)
    refine denL_cons.2 ⟨.int .u8 (c : Int), _, ?_, denL_bytes fun d hd => h d (List.mem_cons_of_mem _ hd), rfl⟩
    rw [den_int_of (by simpa [modOf] using hc), sgn_nat .u8 (by simpa [halfOf] using hc)]
theorem bytes_map {l : List Nat} (h : ∀ c ∈ l, c < 256) : (bytesOf l).data.map (fun b => Value.int .u8 (b.toNat : Int)) = (l.map fun (c : Nat) => Value.int .u8 (c : Int)).toArray := by
  apply Array.ext'
  simp only [bytesOf, List.map_toArray, List.map_map]
  refine List.map_congr_left fun c hc => ?_
  simp only [Function.comp_apply]
  rw [toU8 (h c hc)]
/-- The cells that are handed over. -/
theorem srcCells_sound (hc : CxOK X K w0) (hS : StRel X K w0 E st w) {es n : Nat} {x : AV} {l : List AV} (h : srcCells X.cx st es n x = some l) {y : Value} (hy : x.den E = some y) {m : Nat} (hm : lenOf x = some m) (hle : n ≤ m) :
    ∃ xs, denL E l = some xs ∧ xs.length = n * es ∧ (Builtin.firstCells es n y).run X.P w = .ok xs.toArray w ∧ ∀ ad p c, y = .slice (some ad) p c → 0 < p → ∀ (j : Nat) (z : Value), xs[j]? = some z → w.cell? (ad.add j) = some z := by
  unfold srcCells at h
  split at h
  · rename_i p _ _
    rw [natMul] at h
    rcases den_slice_inv hy with ⟨e1, _⟩ | ⟨q, ad, cp, e1, had, _, _, e0⟩
    · cases e1
    · cases e1; subst e0
      obtain ⟨xs, h1, h2, h3, h4⟩ := cells_sound hc hS h had
      exact ⟨xs, h1, h2, by simpa [Builtin.firstCells] using h3, fun ad' p' c' e _ => by cases e; exact h4⟩
  · cases h
    rcases den_slice_inv hy with ⟨_, e2, _, e0⟩ | ⟨q, ad, cp, e1, _⟩
    · subst e0
      cases hm
      have : n = 0 := by omega
      subst this
      exact ⟨[], rfl, by simp, by simp [Builtin.firstCells], fun _ _ _ e => by cases e⟩
    · cases e1
  · cases h
    cases hm
    have : n = 0 := by omega
    subst this
    obtain ⟨x, c, _, _, _, rfl⟩ := den_sl0 hy
    refine ⟨[], rfl, by simp, ?_, fun _ _ _ e hp => by cases e; exact absurd hp (Nat.lt_irrefl _)⟩
    simp only [Builtin.firstCells, Nat.zero_mul]
    exact run_loadCells_list (P := X.P) _ _ [] (fun i x hx => by simp at hx)
  · rename_i s
    obtain ⟨hes, h⟩ := bif_some h
    rw [beq_iff, decide_eq_true_eq] at hes
    subst hes
    cases h
    obtain ⟨h1, h2, rfl⟩ := den_str hy
    cases hm
    rw [takeL_eq]
    have h3 : ∀ c ∈ s.take n, c < 256 := fun c hc => h2 c (List.mem_of_mem_take hc)
    refine ⟨_, denL_bytes h3, by simp; omega, ?_, fun _ _ _ e => by cases e⟩
    have e1 : (bytesOf s).extract 0 n = bytesOf (s.take n) := by
      have := bytesOf_extract s 0 n
      simpa using this
    simp only [Builtin.firstCells]
    rw [e1, bytes_map h3]
    rfl
  · cases h


theorem clearS_out (hc : CxOK X K w0) (hS : StRel X K w0 E st w) {args : Array Operand} {tys : Array TypeId} {bs : List BO} {t e : TypeId} {n : Nat} {z : List AV} {bx : BO} (ho : o.op = .call ⟨.builtin .clear, args, tys⟩) (hb : cOs args.toList = some bs) (ht : getL 0 tys.toList = some t) (hx : getL 0 bs = some bx)
    (hd : X.cx.und.get t = some (.slice e)) (hz : X.cx.zero.get e = some z) (_hn : X.cx.size.get e = some n) (h : (xClearS n z st k (ev tm bx)).holds Θ E.va R) : EffOut X K w0 Θ R E o tm st w k := by
  intro ρ hR
  obtain ⟨y, hy, hy2⟩ := barg ho hb hR hx
  have ht' := tys_get ht
  have hu := hc.und t _ hd
  obtain ⟨ie, zv, h1, h2, h3, h4, h5, _⟩ := hc.zero e z hz
  have hzl := denL_length (h5 E)
  have go : ∀ w', (Builtin.clear_ tys o.type (args.map ρ)).run X.P w = .ok (.tuple #[]) w' → (execOp ρ o).run X.P w = .ok (.value (.tuple #[])) w' := by
    intro w' hw'
    simp [execOp, ho, resolve, invoke, Go.builtin, hw']
  unfold xClearS at h
  split at h
  · rename_i hev
    rw [hev] at hy
    rcases den_slice_inv hy with ⟨_, _, _, e0⟩ | ⟨q, ad, cp, e1, _⟩
    · subst e0
      rw [go w (by simp [Builtin.clear_, ht', hy2, run_underlying hu])]
      exact .now h hS rfl
    · cases e1
  · rename_i hev
    rw [hev] at hy
    obtain ⟨x, c, _, _, _, rfl⟩ := den_sl0 hy
    rw [go w (by simp [Builtin.clear_, ht', hy2, run_underlying hu])]
    exact .now h hS rfl
  · rename_i b off m c hev
    rw [hev] at hy
    rcases den_slice_inv hy with ⟨e1, _⟩ | ⟨q, ad, cp, e1, had, _, _, rfl⟩
    · cases e1
    · cases e1
      have hrep := denL_rep (h5 E) m
      rw [rep_made zv.cells.toList m] at hrep
      obtain ⟨st', w', g1, g2, g3, g4⟩ := storeCells_sound hS h hrep had
      have hcl : (Builtin.clear_ tys o.type (args.map ρ)).run X.P w = .ok (.tuple #[]) w' := by
        cases m with
        | zero =>
          have hw : w' = w := by
            simp only [Nat.zero_mul] at g2
            have : (madeCells zv.cells.toList.toArray 0).toList = [] := by simp [madeCells]
            rw [this] at g2
            simpa [Go.storeCells] using g2.symm
          rw [hw]
          simp [Builtin.clear_, ht', hy2, run_underlying hu]
        | succ m =>
          have : (Builtin.zeroCells zv.cells (m + 1)).toList = (madeCells zv.cells.toList.toArray ((m + 1) * zv.cells.toList.length)).toList := by simp [Builtin.zeroCells, madeCells]
          rw [← this] at g2
          simp [Builtin.clear_, ht', hy2, run_underlying hu, zeroValue, typeInfo, h1, h2, g2, program, Sem.run]
      rw [go w' hcl]
      exact ⟨_, st', E, R, List.prefix_rfl, g1, .refl E, g3, g4, rfl⟩
  · exact h.elim

theorem copy_out (hc : CxOK X K w0) (hS : StRel X K w0 E st w) {args : Array Operand} {tys : Array TypeId} {bs : List BO} {t e : TypeId} {n : Nat} {bd bx : BO} (ho : o.op = .call ⟨.builtin .copy, args, tys⟩) (hb : cOs args.toList = some bs) (ht : getL 0 tys.toList = some t)
    (hd0 : getL 0 bs = some bd) (hx : getL 1 bs = some bx) (hd : X.cx.und.get t = some (.slice e)) (hn : X.cx.size.get e = some n)
    (h : (xCopy X.cx n (ev tm bx) st k (ev tm bd)).holds Θ E.va R) : EffOut X K w0 Θ R E o tm st w k := by
  intro ρ hR
  obtain ⟨y, hy, hy2⟩ := barg ho hb hR hx
  obtain ⟨yd, hyd, hyd2⟩ := barg ho hb hR hd0
  have ht' := tys_get ht
  have hu := hc.und t _ hd
  have go : ∀ v w', (Builtin.copy_ tys o.type (args.map ρ)).run X.P w = .ok v w' → (execOp ρ o).run X.P w = .ok (.value v) w' := by
    intro v w' hw'
    simp [execOp, ho, resolve, invoke, Go.builtin, hw']
  unfold xCopy at h
  split at h
  · rename_i b off m c hev
    rw [hev] at hyd
    obtain ⟨ml, hml, h⟩ := vbind_inv h
    rw [natK_eq] at h
    obtain ⟨l, hl, h⟩ := vbind_inv h
    rcases den_slice_inv hyd with ⟨e1, _⟩ | ⟨q, ad, cp, e1, had, _, _, rfl⟩
    · cases e1
    · cases e1
      rw [nmin_eq] at hl h
      obtain ⟨xs, h1, h2, h3, _⟩ := srcCells_sound hc hS hl hy hml (by omega)
      obtain ⟨st', w', g1, g2, g3, g4⟩ := storeCells_sound hS h h1 had
      obtain ⟨g5, g6⟩ := lenK_inv g1
      have hlen := lenOf_sound (X := X) hml hy w
      have e1 : Nat.min ml m = min ml m := rfl
      have hrun : (Builtin.copy_ tys o.type (args.map ρ)).run X.P w = .ok (goInt ((min ml m : Nat) : Int)) w' := by
        simp [Builtin.copy_, ht', hyd2, hy2, run_underlying hu, hlen, hc.size' hn, h3, g2, e1]
      rw [go _ w' hrun]
      exact ⟨_, st', E, R, List.prefix_rfl, g6, .refl E, g3, g4, den_i64 g5⟩
  · rename_i hev
    rw [hev] at hyd
    obtain ⟨ml, hml, h⟩ := vbind_inv h
    rcases den_slice_inv hyd with ⟨_, e2, _, rfl⟩ | ⟨q, ad, cp, e1, _⟩
    · have hlen := lenOf_sound (X := X) hml hy w
      have hf : ∃ cs, (Builtin.firstCells n 0 y).run X.P w = .ok cs w := by
        cases y <;> simp [Builtin.lenOf] at hlen
        · exact ⟨_, rfl⟩
        · rename_i a _ _
          cases a with
          | none => exact ⟨_, rfl⟩
          | some a =>
            refine ⟨#[], ?_⟩
            simp only [Builtin.firstCells, Nat.zero_mul]
            exact run_loadCells_list (P := X.P) _ _ [] (fun i x hx => by simp at hx)
      obtain ⟨cs, hcs⟩ := hf
      rw [go (goInt 0) w (by simp [Builtin.copy_, ht', hyd2, hy2, run_underlying hu, hlen, hc.size' hn, hcs])]
      exact .now h hS (den_i64 (by decide))
    · cases e1
  · exact h.elim
end
end Go.Sy
