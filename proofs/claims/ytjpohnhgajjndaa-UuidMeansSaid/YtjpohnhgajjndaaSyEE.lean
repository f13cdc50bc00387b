import Derived.Test.YtjpohnhgajjndaaSyED
import Derived.Laws.BytesString
/-! Bytes and texts. -/
namespace Go.Sy
section
variable {X : Tabs} {K : Nat → Prop} {w0 : World} {E : Env} {st : St} {w : World} {Θ : Pred} {R : List Back} {tm : Tm} {k : Kt} {o : Oper}

theorem cellNats_inv : ∀ {l : List AV} {ns : List Nat}, cellNats l = some ns → l = byteAVs ns
  | [], ns, h => by cases h; rfl
  | v :: r, ns, h => by
    unfold cellNats at h
    split at h
    · rename_i e; cases e
    · rename_i n r' e
      obtain ⟨l, hl, h⟩ := obind_inv h
      cases h
      cases e
      rw [cellNats_inv hl]; rfl
    · cases h
theorem bytes_lt : ∀ {ns : List Nat} {xs : List Value}, denL E (byteAVs ns) = some xs → (∀ c ∈ ns, c < 256) ∧ xs = (ns.map (Int.ofNat)).map (Value.int .u8)
  | [], xs, h => by rw [denL_nil.1 h]; exact ⟨by simp, rfl⟩
  | n :: ns, xs, h => by
    obtain ⟨a, b, ha, hb, rfl⟩ := denL_cons.1 h
    obtain ⟨h1, h2⟩ := bytes_lt hb
    obtain ⟨h3, rfl⟩ := den_int ha
    have hn : n < 256 := by simpa [modOf] using h3
    refine ⟨fun c hc => ?_, ?_⟩
    · rcases List.mem_cons.1 hc with rfl | hc
      · exact hn
      · exact h1 c hc
    · rw [h2, sgn_nat .u8 (by simpa [halfOf] using hn)]; rfl
theorem foldl_bytes : ∀ (ns : List Nat) (l : List Nat), (ns.map Int.ofNat).foldl (fun r n => r.push (UInt8.ofNat n.toNat)) (bytesOf l) = bytesOf (l ++ ns)
  | [], l => by simp
  | n :: ns, l => by
    simp only [List.map_cons, List.foldl_cons]
    have : (bytesOf l).push (UInt8.ofNat (Int.ofNat n).toNat) = bytesOf (l ++ [n]) := by
      unfold bytesOf ByteArray.push
      simp
    rw [this, foldl_bytes ns (l ++ [n])]
    simp
theorem u8_of {und : Tr TypeDesc} {e : TypeId} (h : isU8 und e = true) : und.get e = some (.int .u8) := by
  unfold isU8 at h
  cases hd : und.get e with
  | none => rw [hd] at h; cases h
  | some d =>
    rw [hd] at h
    cases d <;> first | (cases h; done) | skip
    rename_i kd
    cases kd <;> first | (cases h; done) | rfl
theorem shape_alloc (w : World) (ys : Array Value) (e : TypeId) (fr : Nat × Nat) : (w.alloc (.cells ys e fr)).shape? w.heap.size = some (e, ys.size) := by
  have : (w.alloc (.cells ys e fr)).heap[w.heap.size]? = some (.cells ys e fr) := World.alloc_heap_new _ _
  unfold World.shape?
  rw [this]
theorem bytes_nil : ByteArray.empty = bytesOf [] := rfl
theorem run_stringToBytes {P : Program} (w : World) (e : TypeId) (s : List Nat) (hs : ∀ c ∈ s, c < 256) : ∃ (c : Nat) (rest : Array Value), s.length ≤ c ∧ rest.size = c - s.length ∧
    (Conv.stringToBytes e (bytesOf s)).run P w = .ok (.slice (some ⟨w.heap.size, 0, none⟩) s.length c) ((w.drew.alloc (.cells ((s.map fun (c : Nat) => Value.int .u8 (c : Int)).toArray ++ rest) e)).freeze ⟨w.heap.size, ((s.map fun (c : Nat) => Value.int .u8 (c : Int)).toArray ++ rest).size, none⟩ 1) := by
  have hf : (Question.appendCap s.length 0 e).forced = false := rfl
  refine ⟨(Question.appendCap s.length 0 e).cut (w.tape w.drawn (.appendCap s.length 0 e)), Array.replicate ((Question.appendCap s.length 0 e).cut (w.tape w.drawn (.appendCap s.length 0 e)) - s.length) (.int .u8 0), ?_, by simp, ?_⟩
  · simp only [Question.cut]; omega
  · have hsz := bytesOf_size s
    have hm := bytes_map hs
    have hshape := shape_alloc w.drew ((s.map fun (c : Nat) => Value.int .u8 (c : Int)).toArray ++ Array.replicate ((Question.appendCap s.length 0 e).cut (w.tape w.drawn (.appendCap s.length 0 e)) - s.length) (.int .u8 0)) e (0, 0)
    change World.shape? _ w.heap.size = _ at hshape
    simp [Conv.stringToBytes, hsz, hm, hf, newRow, markStringish, hshape]
theorem xOfStr_eq (st : St) (k : Kt) (n : Nat) (s : List Nat) : xOfStr st k n s = k (.slice (some ⟨.r st.n, 0⟩) n (.u st.nc 0)) ((⟨st.n, Nat.succ st.nc, st.heap, st.live, st.x⟩ : St).blk ⟨lenL (byteAVs s), puts (byteAVs s) 0 .nil, [], 0, st.n, Nat.succ st.nc, 1⟩) := by
  obtain ⟨m, nc, h, lv, x⟩ := st
  unfold xOfStr
  simp only
  rw [natK_eq, newCells_eq]
theorem conv_out (hc : CxOK X K w0) (hS : StRel X K w0 E st w) {s d : TypeId} {sd dd : TypeDesc} {x : Operand} {b : BO} (hb : cO x = some b) (hs : X.cx.und.get s = some sd) (hd : X.cx.und.get d = some dd) (ho : o.op = .convert s d x) (hne : (isEffC sd dd && not (Nat.beq s d)) = true) (hO : Oks E tm)
    (h : (conv1 X.cx st k (ebOf X.cx.und sd dd) (Nat.beq s d) dd (ev tm b)).holds Θ E.va R) : EffOut X K w0 Θ R E o tm st w k := by
  have hx0 : x ∈ o.op.operands.toList := by rw [ho]; simp [Op.operands]
  have hus := hc.und s sd hs
  have hud := hc.und d dd hd
  have hov := hO.ev hb
  rw [Bool.and_eq_true] at hne
  obtain ⟨hne, hsm⟩ := hne
  have hsm' : Nat.beq s d = false := by simpa using hsm
  rw [hsm'] at h
  intro ρ hR
  have hx := hR.get hx0 hb
  unfold conv1 at h
  split at h
  · cases sd <;> cases hne
  · split at h
    · rename_i n s' hev
      rw [hev] at hx
      obtain ⟨_, _, e0⟩ := den_str hx
      have hrun : (execOp ρ o).run X.P w = .ok (.value (ρ x)) w := by
        rw [run_conv ho, e0]
        unfold convert
        simp only [Sem.run_bind, run_underlying hus, run_underlying hud, Result.andThen_ok]
        cases sd <;> simp
      rw [hrun]
      exact .now h hS hx
    · rename_i j u hev
      rw [hev] at hov hx
      obtain ⟨u', hu', h⟩ := vbind_inv h
      obtain ⟨hlt, h⟩ := vif_inv h
      obtain ⟨j', e1, e2, _⟩ := natOf_inv hu' hov
      cases e1
      rw [blt_iff, decide_eq_true_eq] at hlt
      obtain ⟨_, e0⟩ := den_int hx
      have hrun : (execOp ρ o).run X.P w = .ok (.value (.string (bytesOf [u]))) w := by
        rw [run_conv ho, e0, e2]
        unfold convert
        simp only [Sem.run_bind, run_underlying hus, run_underlying hud, Result.andThen_ok]
        cases sd <;> simp [Conv.intToString, encode_small hlt]
      rw [hrun]
      exact .now h hS (den_str_of (n := 1) (s := [u]) rfl (by intro c hc; rw [List.mem_singleton.1 hc]; omega))
    · have he := (vif_inv h).1
      replace h := (vif_inv h).2
      obtain ⟨e, rfl, he8⟩ : ∃ e, sd = .slice e ∧ isU8 X.cx.und e = true := by
        cases sd <;> first | (cases he; done) | exact ⟨_, rfl, he⟩
      have he8 := hc.und e _ (u8_of he8)
      have go : ∀ a l c v, ρ x = .slice a l c → (Conv.bytesToString (.slice a l c)).run X.P w = .ok v w → (execOp ρ o).run X.P w = .ok (.value v) w := by
        intro a l c v e0 hv
        rw [run_conv ho, e0, Sem.run_bind, run_convert_bytes_string w s d e a l c hus he8 hud, hv]; rfl
      unfold xToStr at h
      clear hov
      split at h
      · rename_i hev
        rw [hev] at hx
        rcases den_slice_inv hx with ⟨_, _, _, e0⟩ | ⟨p, ad, cp, e1, _⟩
        · rw [go _ _ _ (.string (bytesOf [])) e0 (by rw [← bytes_nil]; rfl)]
          exact .now h hS (den_str_of rfl (by simp))
        · cases e1
      · rename_i hev
        rw [hev] at hx
        obtain ⟨y, c, _, _, _, e0⟩ := den_sl0 hx
        have hrun : ∀ (q : Addr) (n : Nat), (Conv.bytesToString (.slice (some q) 0 n)).run X.P w = .ok (.string (bytesOf [])) w := fun q n => by
          have := run_bytesToString (P := X.P) w q 0 n [] (run_loadCells_list (P := X.P) (w := w) q [] (fun i x hx => by simp at hx))
          simp only [List.foldl_nil] at this
          rw [← bytes_nil]; exact this
        rw [go _ _ _ (.string (bytesOf [])) e0 (hrun _ _)]
        exact .now h hS (den_str_of rfl (by simp))
      · rename_i a n c hev
        rw [hev] at hx
        obtain ⟨l, hl, h⟩ := vbind_inv h
        obtain ⟨ns, hns, h⟩ := vbind_inv h
        rcases den_slice_inv hx with ⟨e1, _⟩ | ⟨p, ad, cp, e1, had, _, _, e0⟩
        · cases e1
        · cases e1
          obtain ⟨xs, h1, h2, h3, _⟩ := cells_sound hc hS hl had
          rw [cellNats_inv hns] at h1
          obtain ⟨h4, h5⟩ := bytes_lt h1
          rw [h5] at h3
          have hlen : n = ns.length := by rw [← h2, h5]; simp
          have hrun := run_bytesToString (P := X.P) w ad n cp (ns.map Int.ofNat) h3
          have e2 : (ns.map Int.ofNat).foldl (fun r n => r.push (UInt8.ofNat n.toNat)) ByteArray.empty = bytesOf ns := by
            have := foldl_bytes ns []
            rw [bytes_nil, this]; simp
          rw [e2] at hrun
          rw [go _ _ _ _ e0 hrun]
          exact .now h hS (den_str_of hlen h4)
      · exact h.elim
  · rename_i e
    split at h
    · rename_i n s' hev
      rw [hev] at hx
      obtain ⟨he, h⟩ := vif_inv h
      obtain ⟨hn, hs', e0⟩ := den_str hx
      rw [Bool.and_eq_true] at he
      have hebof : ebOf X.cx.und sd (.slice e) = isU8 X.cx.und e := by cases sd <;> rfl
      have he8 : isU8 X.cx.und e = true := hebof ▸ he.1
      have he8 := hc.und e _ (u8_of he8)
      obtain ⟨c, rest, h1, h2, h3⟩ := run_stringToBytes (P := X.P) w e s' hs'
      have hrun : ∀ v w', (Conv.stringToBytes e (bytesOf s')).run X.P w = .ok v w' → (execOp ρ o).run X.P w = .ok (.value v) w' := by
        intro v w' hv
        rw [run_conv ho, e0]
        unfold convert
        simp only [Sem.run_bind, run_underlying hus, run_underlying hud, Result.andThen_ok]
        cases sd <;> simp [run_underlying he8, hv]
      rw [hrun _ _ h3]
      rw [xOfStr_eq] at h
      obtain ⟨g1, g2⟩ := hS.newGrown (denL_bytes hs') (c := c) (es := 1) (rest := rest) (el := e) (by simp [h2]; omega) (by simp; exact h1) w.drew rfl hS.drew
      have hnk : ¬ K w.heap.size := fun hK => absurd (hS.klt' _ hK) (Nat.lt_irrefl _)
      have g3 := g1.freeze (id := w.heap.size) hnk (cs := (s'.map fun (c : Nat) => Value.int .u8 (c : Int)).toArray ++ rest) (el := e) (fr := (0, 0)) (by show (w.heap.push _)[w.heap.size]? = _; simp)
      exact ⟨_, _, E.both (w.heap.size, 0) c, R, List.prefix_rfl, h, E.le_both _ _, g3, g2, by rw [hn]; exact slice_u_den hS h1⟩
    · obtain ⟨he, _⟩ := vif_inv h
      simp at he
    · exact h.elim
  · exact h.elim
end
end Go.Sy
