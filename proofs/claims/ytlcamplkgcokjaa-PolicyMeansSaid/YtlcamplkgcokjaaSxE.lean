import Derived.Test.YtlcamplkgcokjaaSxD
/-! Statements whose order is drawn: whatever the order, what the text's order says. -/
namespace Go.Sx
open Go.RowKit (Below)
section
variable {P : Program} {cx : Cx} {σ : Nat → Option Value} {B : Nat} {w0 : World} {E : Env} {st : St} {w : World} {tm : Tm} {a : Act} {N : Nat} {rec : Rec} {r : Res}

theorem slot_putD (tm : Tm) (d : Option Tmp) (v : AV) (t : Nat) : slot (putD tm d v) t = if d = some t then v else slot tm t := by
  cases d with
  | none => simp [putD]
  | some d => simp only [putD, slot_set, Option.some.injEq]

/-! ### The text's order -/
def StepT (cx : Cx) (rec : Rec) (all : List Oper) (o : Oper) (T : Nat → Tm) (S : Nat → St) (V : Nat → AV) (i : Nat) : Prop :=
  T (i + 1) = putD (T i) o.dst (V i) ∧
  ((wanted all (T i) o.guard = false ∧ V i = .tuple [] ∧ S (i + 1) = S i) ∨
   (wanted all (T i) o.guard = true ∧ isEff o.op = true ∧ ∀ k, opK o.op cx rec (T i) (S i) k = k (V i) (S (i + 1))) ∨
   (wanted all (T i) o.guard = true ∧ isEff o.op = false ∧ movOp o.op cx (T i) (S i) = some (V i) ∧ S (i + 1) = S i))

theorem movOp_load {t : TypeId} {x : Operand} {v : AV} (h : movOp (.load t x) cx tm st = some v) : ∃ y z, ev tm x = some y ∧ asPtr y = some z ∧ loadVar cx st t z = some v := by
  change obind (ev tm x) (fun a => obind (asPtr a) fun a => out st (fun v _ => some v) (loadVar cx st t a)) = some v at h
  obtain ⟨y, h1, h⟩ := obind_inv h
  obtain ⟨z, h2, h⟩ := obind_inv h
  obtain ⟨u, h3, h⟩ := out_inv h
  cases h
  exact ⟨y, z, h1, h2, h3⟩

theorem drawL_trace (all : List Oper) (p : Plan) : ∀ (l : List Oper) (i : Nat) (tm : Tm) (st : St) (sts : List St) (lds : List Ld), drawL cx rec all p l i tm st (st :: sts) lds = some r →
    ∃ (T : Nat → Tm) (S : Nat → St) (V : Nat → AV) (more : List St) (lds' : List Ld), T 0 = tm ∧ S 0 = st ∧ (∀ j o, l[j]? = some o → StepT cx rec all o T S V j) ∧ r = .code .normal (T l.length) (S l.length) ∧
      ldsOK cx ((st :: sts).reverse ++ more) lds' = true ∧ (∀ j, j ≤ l.length → ((st :: sts).reverse ++ more)[sts.length + cnt l j]? = some (S j)) ∧ (∀ x ∈ lds, x ∈ lds') ∧
      ∀ j o t x, l[j]? = some o → wanted all (T j) o.guard = true → o.op = .load t x → ∃ y z, ev (T j) x = some y ∧ asPtr y = some z ∧ loadVar cx (S j) t z = some (V j) ∧ ⟨t, z, V j, loOf p (i + j), hiOf p (i + j)⟩ ∈ lds'
  | [], i, tm, st, sts, lds, h => by
    change bif_ (ldsOK cx (st :: sts).reverse lds) (some (Res.code .normal tm st)) none = some r at h
    obtain ⟨h1, h2⟩ := bif_some h
    cases h2
    refine ⟨fun _ => tm, fun _ => st, fun _ => .tuple [], [], lds, rfl, rfl, by simp, rfl, by simpa using h1, fun j hj => ?_, fun _ h => h, by simp⟩
    simp only [List.length_nil, Nat.le_zero] at hj
    subst hj
    simp [cnt]
  | o :: l, i, tm, st, sts, lds, h => by
    have glue : ∀ (v : AV) (st1 : St) (sts1 : List St) (lds1 : List Ld), drawL cx rec all p l (i + 1) (putD tm o.dst v) st1 (st1 :: sts1) lds1 = some r →
        (∃ m1, (st1 :: sts1).reverse = (st :: sts).reverse ++ m1) → sts1.length = sts.length + (if isEff o.op = true then 1 else 0) → (∀ x ∈ lds, x ∈ lds1) →
        ((wanted all tm o.guard = false ∧ v = .tuple [] ∧ st1 = st) ∨ (wanted all tm o.guard = true ∧ isEff o.op = true ∧ ∀ k, opK o.op cx rec tm st k = k v st1) ∨ (wanted all tm o.guard = true ∧ isEff o.op = false ∧ movOp o.op cx tm st = some v ∧ st1 = st)) →
        (∀ t x, wanted all tm o.guard = true → o.op = .load t x → ∃ y z, ev tm x = some y ∧ asPtr y = some z ∧ loadVar cx st t z = some v ∧ ⟨t, z, v, loOf p i, hiOf p i⟩ ∈ lds1) →
        ∃ (T : Nat → Tm) (S : Nat → St) (V : Nat → AV) (more : List St) (lds' : List Ld), T 0 = tm ∧ S 0 = st ∧ (∀ j o', (o :: l)[j]? = some o' → StepT cx rec all o' T S V j) ∧ r = .code .normal (T (o :: l).length) (S (o :: l).length) ∧
          ldsOK cx ((st :: sts).reverse ++ more) lds' = true ∧ (∀ j, j ≤ (o :: l).length → ((st :: sts).reverse ++ more)[sts.length + cnt (o :: l) j]? = some (S j)) ∧ (∀ x ∈ lds, x ∈ lds') ∧
          ∀ j o' t x, (o :: l)[j]? = some o' → wanted all (T j) o'.guard = true → o'.op = .load t x → ∃ y z, ev (T j) x = some y ∧ asPtr y = some z ∧ loadVar cx (S j) t z = some (V j) ∧ ⟨t, z, V j, loOf p (i + j), hiOf p (i + j)⟩ ∈ lds' := by
      intro v st1 sts1 lds1 h hm hlen hld hstep hload
      obtain ⟨T, S, V, more, lds', g1, g2, g3, g4, g5, g6, g7, g8⟩ := drawL_trace all p l (i + 1) _ st1 sts1 lds1 h
      obtain ⟨m1, hm⟩ := hm
      refine ⟨fun | 0 => tm | j + 1 => T j, fun | 0 => st | j + 1 => S j, fun | 0 => v | j + 1 => V j, m1 ++ more, lds', rfl, rfl, ?_, g4, ?_, ?_, fun x hx => g7 x (hld x hx), ?_⟩
      · intro j o' ho
        cases j with
        | zero =>
          simp only [List.getElem?_cons_zero, Option.some.injEq] at ho
          subst ho
          refine ⟨g1, ?_⟩
          show _ ∨ (_ ∧ _ ∧ ∀ k, opK o.op cx rec tm st k = k v (S 0)) ∨ (_ ∧ _ ∧ _ ∧ S 0 = st)
          rw [g2]
          rcases hstep with ⟨a1, a2, a3⟩ | h | h
          · exact .inl ⟨a1, a2, by show S 0 = st; rw [g2, a3]⟩
          · exact .inr (.inl h)
          · exact .inr (.inr h)
        | succ j => exact g3 j o' (by simpa using ho)
      · rw [← List.append_assoc, ← hm]; exact g5
      · intro j hj
        cases j with
        | zero =>
          rw [List.getElem?_append_left (by simp)]
          simp
        | succ j =>
          have := g6 j (by simpa using hj)
          rw [hm, List.append_assoc] at this
          rw [← this]
          congr 1
          simp only [cnt]
          omega
      · intro j o' t x ho hw hop
        cases j with
        | zero =>
          simp only [List.getElem?_cons_zero, Option.some.injEq] at ho
          subst ho
          obtain ⟨y, z, a1, a2, a3, a4⟩ := hload t x hw hop
          exact ⟨y, z, a1, a2, a3, g7 _ a4⟩
        | succ j =>
          obtain ⟨y, z, a1, a2, a3, a4⟩ := g8 j o' t x (by simpa using ho) hw hop
          exact ⟨y, z, a1, a2, a3, by simpa [Nat.add_assoc, Nat.add_comm, Nat.add_left_comm] using a4⟩
    change (Bool.rec (motive := fun _ => Option Res)
      (putDK tm (.tuple []) (fun tm => drawL cx rec all p l (Nat.succ i) tm st (bif_ (isEff o.op) (st :: (st :: sts)) (st :: sts)) lds) o.dst)
      (Bool.rec (motive := fun _ => Option Res)
        (obind (movOp o.op cx tm st) fun v => putDK tm v (fun tm' => drawL cx rec all p l (Nat.succ i) tm' st (st :: sts) (noteLd tm p i v lds o.op)) o.dst)
        (opK o.op cx rec tm st fun v st1 => putDK tm v (fun tm => drawL cx rec all p l (Nat.succ i) tm st1 (st1 :: (st :: sts)) lds) o.dst) (isEff o.op))
      (wanted all tm o.guard)) = some r at h
    cases hw : wanted all tm o.guard with
    | false =>
      rw [hw] at h
      change putDK _ _ _ _ = some r at h
      rw [putDK_eq] at h
      by_cases he : isEff o.op = true
      · rw [he] at h
        exact glue (.tuple []) st (st :: sts) lds h ⟨[st], by simp⟩ (by simp [he]) (fun _ h => h) (.inl ⟨hw, rfl, rfl⟩) (fun _ _ hw' => by rw [hw] at hw'; cases hw')
      · have he' : isEff o.op = false := by simpa using he
        rw [he'] at h
        exact glue (.tuple []) st sts lds h ⟨[], by simp⟩ (by simp [he']) (fun _ h => h) (.inl ⟨hw, rfl, rfl⟩) (fun _ _ hw' => by rw [hw] at hw'; cases hw')
    | true =>
      rw [hw] at h
      cases he : isEff o.op with
      | true =>
        rw [he] at h
        change opK o.op cx rec tm st _ = some r at h
        rcases opK_cps cx o.op rec tm st with g | ⟨v, st1, g⟩
        · rw [g] at h; cases h
        · rw [g, putDK_eq] at h
          refine glue v st1 (st :: sts) lds h ⟨[st1], by simp⟩ (by simp [he]) (fun _ h => h) (.inr (.inl ⟨hw, he, g⟩)) (fun t x _ hop => ?_)
          rw [hop] at he; cases he
      | false =>
        rw [he] at h
        change obind (movOp o.op cx tm st) _ = some r at h
        obtain ⟨v, hv, h⟩ := obind_inv h
        rw [putDK_eq] at h
        refine glue v st sts (noteLd tm p i v lds o.op) h ⟨[], by simp⟩ (by simp [he]) (fun x hx => ?_) (.inr (.inr ⟨hw, he, hv, rfl⟩)) (fun t x _ hop => ?_)
        · unfold noteLd
          split
          · split
            · split
              · exact List.mem_cons_of_mem _ hx
              · exact hx
            · exact hx
          · exact hx
        · rw [hop] at hv ⊢
          obtain ⟨y, z, h1, h2, h3⟩ := movOp_load hv
          exact ⟨y, z, h1, h2, h3, by simp [noteLd, h1, h2]⟩

/-! ### The slots at any listing -/
noncomputable def curT (dst : Nat → Option Tmp) (V : Nat → AV) (tm : Tm) (L : Nat → Bool) : Nat → Tm
  | 0 => tm
  | i + 1 => if L i = true then putD (curT dst V tm L i) (dst i) (V i) else curT dst V tm L i

section
variable {dst : Nat → Option Tmp} {V : Nat → AV} {L M : Nat → Bool}
theorem cur_congr {t : Nat} : ∀ {n : Nat}, (∀ j, j < n → dst j = some t → L j = M j) → slot (curT dst V tm L n) t = slot (curT dst V tm M n) t
  | 0, _ => rfl
  | n + 1, h => by
    have ih := cur_congr (t := t) (n := n) fun j hj => h j (by omega)
    by_cases hd : dst n = some t
    · have e := h n (by omega) hd
      simp only [curT, e]
      split
      · rw [slot_putD, slot_putD, if_pos hd, if_pos hd]
      · exact ih
    · simp only [curT]
      split <;> split <;> simp only [slot_putD, if_neg hd, ih]
theorem cur_le {i : Nat} {t : Nat} : ∀ {n : Nat}, i ≤ n → (∀ j, i ≤ j → j < n → dst j = some t → L j = false) → slot (curT dst V tm L n) t = slot (curT dst V tm L i) t
  | 0, h, _ => by have : i = 0 := by omega
                  subst this; rfl
  | n + 1, h, g => by
    by_cases e : i = n + 1
    · subst e; rfl
    · have ih := cur_le (n := n) (by omega : i ≤ n) fun j h1 h2 => g j h1 (by omega)
      simp only [curT]
      split
      · rename_i hl
        rw [slot_putD, if_neg, ih]
        intro hd
        rw [g n (by omega) (by omega) hd] at hl; cases hl
      · exact ih
theorem cur_put {i : Nat} (hi : L i = false) {t : Nat} (hM : ∀ j, M j = if j = i then true else L j) : ∀ {n : Nat}, i < n → (∀ j, i < j → j < n → dst j = dst i → dst i = some t → L j = false) → slot (curT dst V tm M n) t = slot (putD (curT dst V tm L n) (dst i) (V i)) t
  | 0, h, _ => by omega
  | n + 1, h, g => by
    by_cases e : i = n
    · subst e
      have e1 : slot (curT dst V tm M i) t = slot (curT dst V tm L i) t := cur_congr fun j hj _ => by rw [hM, if_neg (by omega)]
      simp only [curT, hM i, if_true, hi, Bool.false_eq_true, if_false, slot_putD, e1]
    · have ih := cur_put hi hM (n := n) (by omega) fun j h1 h2 => g j h1 (by omega)
      have en : M n = L n := by rw [hM, if_neg (fun h => e h.symm)]
      simp only [curT, en]
      by_cases hl : L n = true
      · simp only [hl, if_true, slot_putD]
        by_cases hd : dst n = some t
        · simp only [hd, if_true]
          by_cases hdi : dst i = some t
          · have := g n (by omega) (by omega) (hd.trans hdi.symm) hdi
            rw [hl] at this; cases this
          · simp only [hdi, if_false]
        · simp only [hd, if_false]
          rw [ih, slot_putD]
      · simp only [hl, Bool.false_eq_true, if_false]
        exact ih
theorem cur_all {T : Nat → Tm} {n : Nat} (h0 : T 0 = tm) (h : ∀ j, j < n → T (j + 1) = putD (T j) (dst j) (V j)) : ∀ {i : Nat}, i ≤ n → (∀ j, j < i → L j = true) → curT dst V tm L i = T i
  | 0, _, _ => h0.symm
  | i + 1, hi, hl => by
    simp only [curT, hl i (by omega), if_true]
    rw [cur_all h0 h (by omega) fun j hj => hl j (by omega), h i (by omega)]
end

theorem TmRel.congr {tm tm' : Tm} (h : ∀ t, slot tm' t = slot tm t) (hT : TmRel σ E tm a N) : TmRel σ E tm' a N :=
  ⟨hT.size, hT.defers, fun t => by rw [h t]; exact hT.slots t⟩
end
end Go.Sx
