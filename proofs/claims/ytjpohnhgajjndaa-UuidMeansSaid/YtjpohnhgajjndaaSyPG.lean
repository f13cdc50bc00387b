import Derived.Test.YtjpohnhgajjndaaSyPF
import Derived.Lib.Strings
/-! Operators: truths, texts; all of them; conversions; the least and the greatest. -/
namespace Go.Sy
section
variable {X : Tabs} {K : Nat → Prop} {w0 : World} {E : Env} {st : St} {w : World} {Θ : Pred} {R : List Back} {tm : Tm} {k : Kt} {o : Oper}

theorem opRun_bool {P : Program} {op : BinOp} {t : TypeId} {xo yo : Operand} {a b r : Bool} {v : AV} (ht : P.underlying t = some .bool) (hv : binFn op r = some v) (hr : r = decide (a = b)) :
    ∃ c, v = .bool c ∧ ∀ w, (opRun op t xo yo (.bool a) (.bool b)).run P w = .ok (.bool c) w := by
  have heq : ∀ w, (Op.equal t (.bool a) (.bool b)).run P w = .ok r w := by
    intro w
    have key : ∀ n, (Op.equalIn (n + 1) t (.bool a) (.bool b)).run P w = .ok r w := by
      intro n
      simp only [Op.equalIn, Sem.run_bind, run_underlying ht, Result.andThen_ok, Sem.run_pure, hr]
      congr 1
    exact key 9999
  obtain ⟨c, rfl, _⟩ := binFn_run hv (P := P) (p := .bool a) (q := .bool b) (w := default) (.inl rfl) (heq _)
  refine ⟨c, rfl, fun w => ?_⟩
  obtain ⟨c', e, hrun⟩ := binFn_run hv (P := P) (p := .bool a) (q := .bool b) (w := w) (.inl rfl) (heq w)
  cases e
  simp only [opRun, Sem.run_bind, eqGuard_ok (P := P) op t xo yo (p := .bool a) (q := .bool b) rfl (fun h => by cases h), Result.andThen_ok, hrun]
theorem bool_bin2 {P : Program} {op : BinOp} {t : TypeId} {xo yo : Operand} {r a b : Bool} {v p q : AV} (ht : P.underlying t = some .bool) (hv : binFn op r = some v)
    (hp : ∀ E' x, E.Le E' → p.den E' = some x → x = .bool a) (hq : ∀ E' x, E.Le E' → q.den E' = some x → x = .bool b) (hr : r = decide (a = b)) : Bin2 P E v p q (opRun op t xo yo) := by
  intro E' x y hE hx hy
  rw [hp E' x hE hx, hq E' y hE hy]
  obtain ⟨c, rfl, h⟩ := opRun_bool (xo := xo) (yo := yo) ht hv hr
  exact ⟨_, rfl, h⟩
theorem eqB_inv {P : Program} {op : BinOp} {c z : T} {t : TypeId} {xo yo : Operand} {a b cv : Bool} {p q : AV} (h : (eqB op c st k (.cnd z)).holds Θ E.va R) (hf : FOK E.va st.facts) (ht : P.underlying t = some .bool) (hc : c.ev E.va = some (.b cv)) (hcv : cv = decide (a = b))
    (hp : ∀ E' x, E.Le E' → p.den E' = some x → x = .bool a) (hq : ∀ E' x, E.Le E' → q.den E' = some x → x = .bool b) : Bin2Out P Θ R E st k p q (opRun op t xo yo) := by
  change (brK c st (fun st => outK st k (binFn op true)) (fun st => outK st k (binFn op false))).holds Θ E.va R at h
  obtain ⟨f, hf', h⟩ := brK_inv h hf hc
  rcases h with ⟨e, h⟩ | ⟨e, h⟩
  · obtain ⟨v, hv, h⟩ := outK_inv h
    exact ⟨v, f, h, hf', bool_bin2 ht hv hp hq (by rw [← hcv, e])⟩
  · obtain ⟨v, hv, h⟩ := outK_inv h
    exact ⟨v, f, h, hf', bool_bin2 ht hv hp hq (by rw [← hcv, e])⟩
theorem bool_den {a : Bool} : ∀ E' x, E.Le E' → (AV.bool a).den E' = some x → x = .bool a := fun E' x _ h => by cases h; rfl
theorem boolRec {a : Bool} {x y : VC} (h : (Bool.rec x y a : VC).holds Θ E.va R) : (a = true ∧ y.holds Θ E.va R) ∨ (a = false ∧ x.holds Θ E.va R) := by
  cases a with
  | true => exact .inl ⟨rfl, h⟩
  | false => exact .inr ⟨rfl, h⟩
theorem binB_inv {P : Program} {op : BinOp} {a : Bool} {q : AV} {t : TypeId} {xo yo : Operand} (h : (binB op a st k q).holds Θ E.va R) (hf : FOK E.va st.facts) (hoq : okv E q) (ht : P.underlying t = some .bool) :
    Bin2Out P Θ R E st k (.bool a) q (opRun op t xo yo) := by
  unfold binB at h
  split at h
  · obtain ⟨v, hv, h⟩ := outK_inv h
    exact .now h hf (bool_bin2 ht hv bool_den bool_den (bbeq_eq _ _))
  · rename_i c
    obtain ⟨b, hb, hd⟩ := cnd_inv hoq
    rcases boolRec h with ⟨e, h⟩ | ⟨e, h⟩
    · exact eqB_inv h hf ht hb (a := a) (b := b) (by rw [e]; cases b <;> rfl) bool_den hd
    · exact eqB_inv h hf ht (mkNot_ev hb) (a := a) (b := b) (by rw [e]; cases b <;> rfl) bool_den hd
  · exact h.elim
theorem binC_inv {P : Program} {op : BinOp} {c : T} {q : AV} {t : TypeId} {xo yo : Operand} (h : (binC op c st k q).holds Θ E.va R) (hf : FOK E.va st.facts) (hop : okv E (.cnd c)) (hoq : okv E q) (ht : P.underlying t = some .bool) :
    Bin2Out P Θ R E st k (.cnd c) q (opRun op t xo yo) := by
  obtain ⟨a, ha, hda⟩ := cnd_inv hop
  unfold binC at h
  split at h
  · rename_i b
    rcases boolRec h with ⟨e, h⟩ | ⟨e, h⟩
    · exact eqB_inv h hf ht ha (a := a) (b := b) (by rw [e]; cases a <;> rfl) hda bool_den
    · exact eqB_inv h hf ht (mkNot_ev ha) (a := a) (b := b) (by rw [e]; cases a <;> rfl) hda bool_den
  · rename_i d
    obtain ⟨b, hb, hdb⟩ := cnd_inv hoq
    obtain ⟨f, hf', h⟩ := brK_inv h hf hb
    rcases h with ⟨e, h⟩ | ⟨e, h⟩
    · obtain ⟨v, g, h1, h2, h3⟩ := eqB_inv (k := k) h (by rw [withF_facts]; exact hf') ht ha (a := a) (b := b) (by rw [e]; cases a <;> rfl) hda hdb
      exact ⟨v, g, by rw [withF_withF] at h1; exact h1, h2, h3⟩
    · obtain ⟨v, g, h1, h2, h3⟩ := eqB_inv (k := k) h (by rw [withF_facts]; exact hf') ht (mkNot_ev ha) (a := a) (b := b) (by rw [e]; cases a <;> rfl) hda hdb
      exact ⟨v, g, by rw [withF_withF] at h1; exact h1, h2, h3⟩
  · exact h.elim

/-! ### Texts -/
theorem bytesOf_toList (s : List Nat) : (bytesOf s).toList = s.map UInt8.ofNat := by rw [ByteArray.toList_eq]; rfl
theorem bytesOf_append (s t : List Nat) : bytesOf s ++ bytesOf t = bytesOf (s ++ t) := by
  apply ByteArray.ext
  rw [ByteArray.data_append]
  simp [bytesOf]
theorem bytesLess_map : ∀ {s t : List Nat}, (∀ c ∈ s, c < 256) → (∀ c ∈ t, c < 256) → Op.bytesLess (s.map UInt8.ofNat) (t.map UInt8.ofNat) = lltL s t
  | [], [], _, _ => rfl
  | _ :: _, [], _, _ => rfl
  | [], _ :: _, _, _ => rfl
  | a :: s, b :: t, h1, h2 => by
    have ha := h1 a (by simp)
    have hb := h2 b (by simp)
    have ih := bytesLess_map (s := s) (t := t) (fun c hc => h1 c (List.mem_cons_of_mem _ hc)) (fun c hc => h2 c (List.mem_cons_of_mem _ hc))
    simp only [List.map_cons, Op.bytesLess, lltL, ih, blt_iff, beq_iff]
    have e1 : (UInt8.ofNat a < UInt8.ofNat b) ↔ a < b := by rw [UInt8.lt_iff_toNat_lt, toU8 ha, toU8 hb]
    have e2 : (UInt8.ofNat a == UInt8.ofNat b) = decide (a = b) := by
      by_cases e : a = b
      · subst e; simp
      · rw [decide_eq_false e, beq_eq_false_iff_ne]
        intro h
        have := congrArg UInt8.toNat h
        rw [toU8 ha, toU8 hb] at this; exact e this
    rw [e2]
    by_cases c : a < b
    · simp [e1, c]
    · simp only [e1, c, decide_false, bif_false]
      by_cases d : a = b <;> simp [d]
theorem strOp_run {P : Program} {op : BinOp} {n m : Nat} {s t : List Nat} {v : AV} (h : strOp op n s m t = some v) {x y : Value} (hx : (AV.str n s).den E = some x) (hy : (AV.str m t).den E = some y) (ty : TypeId) (xo yo : Operand) :
    ∃ z, v.den E = some z ∧ ∀ w, (opRun op ty xo yo x y).run P w = .ok z w := by
  obtain ⟨hn, hs, rfl⟩ := den_str hx
  obtain ⟨hm, ht, rfl⟩ := den_str hy
  have hg : ∀ w, (eqGuard op ty xo yo (.string (bytesOf s)) (.string (bytesOf t))).run P w = .ok () w := fun w => by unfold eqGuard; cases op <;> simp
  have hop : Go.binOp op ty (.string (bytesOf s)) (.string (bytesOf t)) = Op.stringOp op (bytesOf s) (bytesOf t) := by cases op <;> rfl
  have hleq : ((bytesOf s).toList == (bytesOf t).toList) = leqL s t := by
    rw [leqL_eq, bytesOf_toList, bytesOf_toList]
    by_cases e : s = t
    · subst e; simp
    · rw [decide_eq_false e, beq_eq_false_iff_ne]; exact fun h => e (map_u8_inj hs ht h)
  have hllt : Op.bytesLess (bytesOf s).toList (bytesOf t).toList = lltL s t := by rw [bytesOf_toList, bytesOf_toList, bytesLess_map hs ht]
  unfold strOp at h
  split at h
  · obtain ⟨hb, h⟩ := bif_some h
    cases h
    rw [ble_iff, natAdd, decide_eq_true_eq] at hb
    refine ⟨.string (bytesOf (s ++ t)), den_str_of (by rw [natAdd, List.length_append, hn, hm]) (fun c hc => (List.mem_append.1 hc).elim (hs c) (ht c)), fun w => ?_⟩
    simp only [opRun, Sem.run_bind, hg, Result.andThen_ok, hop, Op.stringOp, bytesOf_size]
    rw [if_neg (by show ¬ (((s.length + t.length : Nat) : Int) > 9223372036854775807); omega), bytesOf_append]
    rfl
  all_goals first | (cases h; done) | skip
  all_goals (
    cases h
    refine ⟨_, rfl, fun w => ?_⟩
    simp only [opRun, Sem.run_bind, hg, Result.andThen_ok, hop, Op.stringOp, hleq, hllt]
    rfl)
theorem binStr_inv {P : Program} {op : BinOp} {n : Nat} {s : List Nat} {q : AV} {t : TypeId} {xo yo : Operand} (h : (binStr op n s st k q).holds Θ E.va R) (hf : FOK E.va st.facts) : Bin2Out P Θ R E st k (.str n s) q (opRun op t xo yo) := by
  unfold binStr at h
  split at h
  · obtain ⟨v, hv, h⟩ := outK_inv h
    exact .now h hf fun E' x y _ hx hy => strOp_run hv hx hy t xo yo
  · exact h.elim

theorem xBin_inv (hc : CxOK X K w0) {op : BinOp} {t : TypeId} {d : TypeDesc} {p q : AV} {xo yo : Operand} (h : (xBin X.cx op t d (isConst xo || isConst yo) q st k p).holds Θ E.va R) (hf : FOK E.va st.facts) (hop : okv E p) (hoq : okv E q) (hd : X.cx.und.get t = some d) :
    Bin2Out X.P Θ R E st k p q (opRun op t xo yo) := by
  have hbool : ∀ {y : VC}, (vif (isBoolD d) y).holds Θ E.va R → X.P.underlying t = some .bool ∧ y.holds Θ E.va R := by
    intro y h
    obtain ⟨h1, h2⟩ := vif_inv h
    refine ⟨?_, h2⟩
    have := hc.und t d hd
    cases d <;> first | (cases h1; done) | exact this
  unfold xBin at h
  split at h
  · exact binI_inv h hf hop hoq t xo yo
  · exact binS_inv h hf hop hoq t xo yo
  · obtain ⟨h1, h2⟩ := hbool h; exact binB_inv h2 hf hoq h1
  · obtain ⟨h1, h2⟩ := hbool h; exact binC_inv h2 hf hop hoq h1
  · exact binStr_inv h hf
  · unfold binG at h
    split at h
    · exact binAgg_inv hc h hf hop hoq xo yo
    · exact h.elim
  · obtain ⟨r, hr, h⟩ := vbind_inv h
    obtain ⟨v, hv, h⟩ := outK_inv h
    refine .now h hf fun E' x y _ hx hy => ?_
    obtain ⟨hsh, hnn⟩ := eqD_shape hr hx hy
    have heq : ∀ w, (Op.equal t x y).run X.P w = .ok r w := fun w => eqD_sound hr (hc.und t d hd) hx hy 9999 w
    obtain ⟨b, rfl, _⟩ := binFn_run hv (w := default) (.inl hsh) (heq _)
    refine ⟨_, rfl, fun w => ?_⟩
    obtain ⟨b', e, hrun⟩ := binFn_run hv (w := w) (.inl hsh) (heq w)
    cases e
    simp only [opRun, Sem.run_bind, eqGuard_ok (P := X.P) op t xo yo hsh hnn, Result.andThen_ok, hrun]

/-! ### One operand -/
/-- Whenever it comes, and whatever it is that x stands for. -/
def Un1 (P : Program) (E : Env) (v p : AV) (run : Value → Sem Value) : Prop :=
  ∀ E' x, E.Le E' → p.den E' = some x → ∃ z, v.den E' = some z ∧ ∀ w, (run x).run P w = .ok z w
def Un1Out (P : Program) (Θ : Pred) (R : List Back) (E : Env) (st : St) (k : Kt) (p : AV) (run : Value → Sem Value) : Prop :=
  ∃ v f, (k v (st.withF f)).holds Θ E.va R ∧ FOK E.va f ∧ Un1 P E v p run
theorem Un1Out.now {P : Program} {p v : AV} {run : Value → Sem Value} (hk : (k v st).holds Θ E.va R) (hf : FOK E.va st.facts) (h : Un1 P E v p run) : Un1Out P Θ R E st k p run :=
  ⟨v, st.facts, by rw [withF_self]; exact hk, hf, h⟩
theorem sgn_zero (k : IntKind) : sgn k 0 = 0 := by cases k <;> rfl
theorem ones_sgn (k : IntKind) : sgn k (modOf k - 1) = if k.signed then -1 else k.max := by cases k <;> rfl
theorem xUn_inv {P : Program} {op : UnOp} {p : AV} (h : (xUn op st k p).holds Θ E.va R) (hf : FOK E.va st.facts) (hop : okv E p) : Un1Out P Θ R E st k p (Op.unary op) := by
  have hm := modOf_pos
  unfold xUn at h
  split at h
  · split at h
    · exact .now h hf fun E' x _ hx => by cases hx; exact ⟨_, rfl, fun w => rfl⟩
    · exact h.elim
  · split at h
    · obtain ⟨b, hb, hd⟩ := cnd_inv hop
      exact .now h hf fun E' x hE hx => by rw [hd E' x hE hx]; exact ⟨_, den_cnd_of (ev_mono hE.va (mkNot_ev hb)), fun w => rfl⟩
    · exact h.elim
  · rename_i kd a
    split at h
    · refine .now h hf fun E' x _ hx => ?_
      obtain ⟨ha, rfl⟩ := den_int hx
      obtain ⟨h1, h2⟩ := arU_zar (op := .sub) (k := kd) (a := 0) (b := a) (y := sgn kd a) rfl (hm kd) (fun _ => ⟨ha, rfl⟩) (fun h => by cases h)
      rw [natAdd, Nat.zero_add, natMod] at h1 h2
      refine ⟨_, den_int_of h1, fun w => ?_⟩
      rw [sgn_zero] at h2
      have := zar_run (P := P) h2 (.inr rfl : isShift .sub = true ∨ kd = kd) 0 w
      simp only [Go.binOp, ne_eq, not_true_eq_false, if_false] at this
      exact this
    · refine .now h hf fun E' x _ hx => ?_
      obtain ⟨ha, rfl⟩ := den_int hx
      obtain ⟨h1, h2⟩ := arU_zar (op := .xor) (k := kd) (a := modOf kd - 1) (b := a) (y := sgn kd a) rfl (by have := hm kd; omega) (fun _ => ⟨ha, rfl⟩) (fun h => by cases h)
      have e : Nat.xor (modOf kd - 1) a = Nat.xor a (Nat.sub (modOf kd) 1) := Nat.xor_comm _ _
      rw [e] at h1 h2
      refine ⟨_, den_int_of h1, fun w => ?_⟩
      have := zar_run (P := P) h2 (.inr rfl : isShift .xor = true ∨ kd = kd) 0 w
      rw [ones_sgn] at this
      simpa [Go.binOp, Op.unary] using this
    · exact h.elim
  · rename_i kd t
    obtain ⟨n, h1, h2, h3⟩ := toT_inv (v := .sym kd t) rfl hop
    split at h
    · have hz : zar .sub kd 0 n = some (kd.wrap (0 - n)) := rfl
      refine .now h hf fun E' x hE hx => ?_
      rw [h3 E' x hE hx]
      refine ⟨_, den_sym_of (bin_ev (ρ := E'.va) rfl (ev_mono hE.va h1) hz) (wrap_wf _ _), fun w => ?_⟩
      have := zar_run (P := P) hz (.inr rfl : isShift .sub = true ∨ kd = kd) 0 w
      simp only [Go.binOp, ne_eq, not_true_eq_false, if_false] at this
      exact this
    · obtain ⟨c, hz⟩ : ∃ c, zar .xor kd (sgn kd (modOf kd - 1)) n = some c := ⟨_, rfl⟩
      refine .now h hf fun E' x hE hx => ?_
      rw [h3 E' x hE hx]
      refine ⟨_, den_sym_of (bin_ev (ρ := E'.va) rfl (ev_mono hE.va h1) hz) (zar_wf hz (sgn_wf _ (by have := hm kd; omega))), fun w => ?_⟩
      have := zar_run (P := P) hz (.inr rfl : isShift .xor = true ∨ kd = kd) 0 w
      rw [ones_sgn] at this
      simpa [Go.binOp, Op.unary] using this
    · exact h.elim
  · exact h.elim

/-! ### The least, the greatest -/
def mmRun (mx : Bool) : Value → Value → Sem Value := if mx then Builtin.max2 else Builtin.min2
theorem mmRun_int {P : Program} (mx : Bool) (j k : IntKind) (x y : Int) (w : World) : (mmRun mx (.int j x) (.int k y)).run P w = .ok (.int j (if (if mx then x < y else y < x) then y else x)) w := by
  cases mx <;> simp [mmRun, Builtin.min2, Builtin.max2]
theorem mm2_inv {P : Program} {mx : Bool} {p q : AV} (h : (mm2 mx st k p q).holds Θ E.va R) (hf : FOK E.va st.facts) (hop : okv E p) (hoq : okv E q) : Bin2Out P Θ R E st k p q (mmRun mx) := by
  unfold mm2 at h
  split at h
  · rename_i j a kd b
    obtain ⟨hk, h1⟩ := vif_inv h
    have hjk := kbeq_eq hk
    subst hjk
    obtain ⟨x0, hx0⟩ := hop
    have ha := (den_int hx0).1
    obtain ⟨y0, hy0⟩ := hoq
    have hb := (den_int hy0).1
    have key : ∀ {v : AV} {c : Nat}, v = .int j c → c < modOf j → (sgn j c = if (if mx then sgn j a < sgn j b else sgn j b < sgn j a) then sgn j b else sgn j a) → Bin2 P E v (.int j a) (.int j b) (mmRun mx) := by
      intro v c hv hlt e E' x y _ hx hy
      rw [(den_int hx).2, (den_int hy).2]
      subst hv
      exact ⟨_, den_int_of hlt, fun w => by rw [mmRun_int, e]⟩
    have hcond : (Bool.rec (sltU (halfOf j) b a) (sltU (halfOf j) a b) mx : Bool) = decide (if mx then sgn j a < sgn j b else sgn j b < sgn j a) := by
      cases mx with
      | true => show sltU _ _ _ = _; rw [sltU_eq j ha hb]; simp
      | false => show sltU _ _ _ = _; rw [sltU_eq j hb ha]; simp
    rw [hcond] at h1
    rcases bif_holds h1 with ⟨e, h2⟩ | ⟨e, h2⟩
    · exact .now h2 hf (key rfl hb (by rw [if_pos (of_decide_eq_true e)]))
    · exact .now h2 hf (key rfl ha (by rw [if_neg (of_decide_eq_false e)]))
  · obtain ⟨a, hpa, h⟩ := vbind_inv h
    obtain ⟨b, hqb, h⟩ := vbind_inv h
    obtain ⟨hk, h⟩ := vif_inv h
    obtain ⟨j, x⟩ := a
    obtain ⟨kd, y⟩ := b
    have hjk := kbeq_eq hk
    simp only at hjk
    subst hjk
    obtain ⟨n, h1, _, hn⟩ := toT_inv hpa hop
    obtain ⟨m, h2, _, hm⟩ := toT_inv hqb hoq
    have hev : (mkCmp (Bool.rec .lss .gtr mx) y x).ev E.va = some (.b (decide (if mx then n < m else m < n))) := by
      rw [mkCmp_ev h2 h1]
      cases mx <;> simp [zcm]
    obtain ⟨f, hf', h⟩ := brK_inv h hf hev
    rcases h with ⟨e, h⟩ | ⟨e, h⟩
    · refine ⟨q, f, h, hf', fun E' x y hE hx hy => ⟨y, hy, fun w => ?_⟩⟩
      rw [hn E' x hE hx, hm E' y hE hy, mmRun_int, if_pos (of_decide_eq_true e)]
    · refine ⟨p, f, h, hf', fun E' x y hE hx hy => ⟨x, hx, fun w => ?_⟩⟩
      rw [hn E' x hE hx, hm E' y hE hy, mmRun_int, if_neg (of_decide_eq_false e)]
theorem mmL_inv {P : Program} {mx : Bool} : ∀ {l : List AV} {v : AV} {st : St}, (mmL mx l v st k).holds Θ E.va R → FOK E.va st.facts → okv E v → (∀ u ∈ l, okv E u) →
    ∃ u f, (k u (st.withF f)).holds Θ E.va R ∧ FOK E.va f ∧ ∀ E' x xs, E.Le E' → v.den E' = some x → denL E' l = some xs → ∃ z, u.den E' = some z ∧ ∀ w, (xs.foldlM (mmRun mx) x).run P w = .ok z w
  | [], v, st, h, hf, _, _ => ⟨v, st.facts, by rw [withF_self]; exact h, hf, fun E' x xs _ hx hxs => ⟨x, hx, fun w => by rw [denL_nil.1 hxs]; rfl⟩⟩
  | q :: l, v, st, h, hf, hv, hl => by
    change (mm2 mx st (fun v st => mmL mx l v st k) v q).holds Θ E.va R at h
    obtain ⟨u, f, h1, hf', h2⟩ := mm2_inv (P := P) h hf hv (hl q (by simp))
    have hu : okv E u := by
      obtain ⟨x, hx⟩ := hv
      obtain ⟨y, hy⟩ := hl q (by simp)
      obtain ⟨z, hz, _⟩ := h2 E.fill x y E.le_fill hx hy
      exact ⟨z, hz⟩
    obtain ⟨u', g, h3, hg, h4⟩ := mmL_inv (P := P) h1 (by rw [withF_facts]; exact hf') hu fun y hy => hl y (List.mem_cons_of_mem _ hy)
    rw [withF_withF] at h3
    refine ⟨u', g, h3, hg, fun E' x xs hE hx hxs => ?_⟩
    obtain ⟨y, ys, hy, hys, rfl⟩ := denL_cons.1 hxs
    obtain ⟨z, hz, hrun⟩ := h2 E' x y hE hx hy
    obtain ⟨z', hz', hrun'⟩ := h4 E' z ys hE hz hys
    exact ⟨z', hz', fun w => by simp only [List.foldlM_cons, Sem.run_bind, hrun w, Result.andThen_ok, hrun' w]⟩
end
end Go.Sy
