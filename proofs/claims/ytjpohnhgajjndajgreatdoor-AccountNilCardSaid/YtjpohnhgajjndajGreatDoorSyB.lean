import Derived.Test.YtjpohnhgajjndajGreatDoorSyT
import Derived.Below
import Derived.Lib.FrozenHead
import Derived.Laws.Cells
import Derived.WalkKit
/-! What abstract values and memory stand for. -/
namespace Go.Sy

/-- A block that is not yet there has no place. -/
structure Env where
  m : List (Option (Nat × Nat))
  caps : List Nat
  z : List Int
  a : List (List Value)
  o : List Value
def Env.va (E : Env) : Va := ⟨E.z, E.a⟩

structure Env.Le (E E' : Env) : Prop where
  m : ∀ (k : Nat) (p : Nat × Nat), E.m[k]? = some (some p) → E'.m[k]? = some (some p)
  caps : ∀ (k c : Nat), E.caps[k]? = some c → E'.caps[k]? = some c
  va : E.va.Le E'.va
  o : ∀ (k : Nat) (v : Value), E.o[k]? = some v → E'.o[k]? = some v
  h : ∀ (k : Nat), E.m[k]? = some none → ∃ q, E'.m[k]? = some q ∧ ∀ p, q = some p → p.2 = 0
theorem Env.Le.refl (E : Env) : E.Le E := ⟨fun _ _ h => h, fun _ _ h => h, .refl _, fun _ _ h => h, fun _ h => ⟨none, h, fun _ e => by cases e⟩⟩
theorem Env.Le.trans {a b c : Env} (h : a.Le b) (h' : b.Le c) : a.Le c :=
  ⟨fun k p e => h'.m k p (h.m k p e), fun k p e => h'.caps k p (h.caps k p e), h.va.trans h'.va, fun k p e => h'.o k p (h.o k p e), fun k e => by
    obtain ⟨q, h1, h2⟩ := h.h k e
    cases q with
    | none => exact h'.h k h1
    | some p => exact ⟨some p, h'.m k p h1, h2⟩⟩

def aden (E : Env) (a : AAddr) : Option Addr :=
  match a.b with
  | .g g => some ⟨g, a.off, none⟩
  | .r k => match E.m[k]? with
    | some (some p) => some ⟨p.1, a.off + p.2, none⟩
    | _ => none
def cden (E : Env) : Cap → Option Nat
  | .k n => some n
  | .u i sub => match E.caps[i]? with
    | some c => if sub ≤ c then some (c - sub) else none
    | none => none
  | .t _ => none
/-- What a place of the unknown may hold. -/
def plain (v : Value) : Bool :=
  match v with
  | .agg _ | .tuple _ | .bool _ => false
  | _ => true
def bytesOf (s : List Nat) : ByteArray := ⟨(s.map UInt8.ofNat).toArray⟩

section
variable (E : Env)
mutual
noncomputable def AV.den : AV → Option Value
  | .bool b => some (.bool b)
  | .int k u => if u < modOf k then some (.int k (sgn k u)) else none
  | .sym k t => match t.ev E.va with
    | some (.i n) => if (Lit.int k n).wf then some (.int k n) else none
    | _ => none
  | .cnd t => match t.ev E.va with
    | some (.b b) => some (.bool b)
    | _ => none
  | .str n s => if n = s.length ∧ ∀ c ∈ s, c < 256 then some (.string (bytesOf s)) else none
  | .sstr _ => none
  | .ptr none => some (.pointer none)
  | .ptr (some a) => (aden E a).map fun x => .pointer (some x)
  | .sptr _ _ => none
  | .slice none n (.k c) => if n = 0 ∧ c = 0 then some (.slice none 0 0) else none
  | .slice none _ (.u _ _) => none
  | .slice none _ (.t _) => none
  | .slice (some a) n c => match aden E a, cden E c with
    | some x, some c => if n ≤ c then some (.slice (some x) n c) else none
    | _, _ => none
  | .ssl _ _ _ _ => none
  | .sl0 a i n d => match aden E a, E.caps[i]? with
    | some x, some c => if n ≤ c then some (.slice (some (if c = n then x else x.add d)) 0 (c - n)) else none
    | _, _ => none
  | .func fn a b => match denL a, denL b with
    | some x, some y => some (.func fn x.toArray y.toArray)
    | _, _ => none
  | .yld l => match E.m[l]? with
    | some (some (id, 0)) => some (.func (.yield id) #[] #[])
    | _ => none
  | .nilFunc => some .nilFunc
  | .iface t v => (AV.den v).map (.iface t)
  | .nilIface => some .nilIface
  | .map none => some (.map none)
  | .map (some k) => match E.m[k]? with
    | some (some (id, 0)) => some (.map (some id))
    | _ => none
  | .agg l => (denL l).map fun x => .agg x.toArray
  | .tuple l => (denL l).map fun x => .tuple x.toArray
  | .opq i => match E.o[i]? with
    | some v => if plain v then some v else none
    | none => none
noncomputable def denL : List AV → Option (List Value)
  | [] => some []
  | v :: r => match AV.den v, denL r with
    | some x, some y => some (x :: y)
    | _, _ => none
end
end

section
variable {E E' : Env}
theorem aden_mono (h : E.Le E') {a : AAddr} {x : Addr} (hx : aden E a = some x) : aden E' a = some x := by
  unfold aden at *
  cases hb : a.b with
  | g n => simpa [hb] using hx
  | r k =>
    simp only [hb] at hx ⊢
    split at hx
    · rename_i p hp; rw [h.m _ _ hp]; exact hx
    · cases hx
theorem cden_mono (h : E.Le E') {c : Cap} {n : Nat} (hx : cden E c = some n) : cden E' c = some n := by
  cases c with
  | k n => exact hx
  | t _ => cases hx
  | u i sub =>
    simp only [cden] at hx ⊢
    cases hk : E.caps[i]? with
    | none => simp [hk] at hx
    | some p => rw [h.caps _ _ hk]; simpa [hk] using hx
mutual
theorem den_mono (h : E.Le E') : ∀ (v : AV) {x : Value}, v.den E = some x → v.den E' = some x
  | .bool _, _, hx | .int _ _, _, hx | .str _ _, _, hx | .ptr none, _, hx | .slice none _ (.k _), _, hx | .nilFunc, _, hx | .nilIface, _, hx | .map none, _, hx => by simpa [AV.den] using hx
  | .sstr _, _, hx | .sptr _ _, _, hx | .slice none _ (.u _ _), _, hx | .slice none _ (.t _), _, hx | .ssl _ _ _ _, _, hx => by simp [AV.den] at hx
  | .sym k t, x, hx => by
    simp only [AV.den] at hx ⊢
    cases ht : t.ev E.va with
    | none => simp [ht] at hx
    | some d => rw [ev_mono h.va ht]; simpa [ht] using hx
  | .cnd t, x, hx => by
    simp only [AV.den] at hx ⊢
    cases ht : t.ev E.va with
    | none => simp [ht] at hx
    | some d => rw [ev_mono h.va ht]; simpa [ht] using hx
  | .ptr (some a), x, hx => by
    simp only [AV.den, Option.map_eq_some_iff] at hx ⊢
    obtain ⟨y, hy, rfl⟩ := hx
    exact ⟨y, aden_mono h hy, rfl⟩
  | .slice (some a) n c, x, hx => by
    simp only [AV.den] at hx ⊢
    cases ha : aden E a with
    | none => simp [ha] at hx
    | some y =>
      cases hc : cden E c with
      | none => simp [ha, hc] at hx
      | some z => rw [aden_mono h ha, cden_mono h hc]; simpa [ha, hc] using hx
  | .sl0 a i n d, x, hx => by
    simp only [AV.den] at hx ⊢
    cases ha : aden E a with
    | none => simp [ha] at hx
    | some y =>
      cases hc : E.caps[i]? with
      | none => simp [ha, hc] at hx
      | some z => rw [aden_mono h ha, h.caps _ _ hc]; simpa [ha, hc] using hx
  | .func fn a b, x, hx => by
    simp only [AV.den] at hx ⊢
    cases ha : denL E a with
    | none => simp [ha] at hx
    | some y =>
      cases hc : denL E b with
      | none => simp [ha, hc] at hx
      | some z => rw [denL_mono h a ha, denL_mono h b hc]; simpa [ha, hc] using hx
  | .yld l, x, hx => by
    simp only [AV.den] at hx ⊢
    split at hx
    · rename_i id hid; rw [h.m _ _ hid]; exact hx
    · cases hx
  | .iface t v, x, hx => by
    simp only [AV.den, Option.map_eq_some_iff] at hx ⊢
    obtain ⟨y, hy, rfl⟩ := hx
    exact ⟨y, den_mono h v hy, rfl⟩
  | .map (some k), x, hx => by
    simp only [AV.den] at hx ⊢
    split at hx
    · rename_i id hid; rw [h.m _ _ hid]; exact hx
    · cases hx
  | .agg l, x, hx => by
    simp only [AV.den, Option.map_eq_some_iff] at hx ⊢
    obtain ⟨y, hy, rfl⟩ := hx
    exact ⟨y, denL_mono h l hy, rfl⟩
  | .tuple l, x, hx => by
    simp only [AV.den, Option.map_eq_some_iff] at hx ⊢
    obtain ⟨y, hy, rfl⟩ := hx
    exact ⟨y, denL_mono h l hy, rfl⟩
  | .opq i, x, hx => by
    simp only [AV.den] at hx ⊢
    cases ho : E.o[i]? with
    | none => simp [ho] at hx
    | some v => rw [h.o _ _ ho]; simpa [ho] using hx
theorem denL_mono (h : E.Le E') : ∀ (l : List AV) {x : List Value}, denL E l = some x → denL E' l = some x
  | [], _, hx => by simpa [denL] using hx
  | v :: r, x, hx => by
    simp only [denL] at hx ⊢
    cases ha : v.den E with
    | none => simp [ha] at hx
    | some y =>
      cases hc : denL E r with
      | none => simp [ha, hc] at hx
      | some z => rw [den_mono h v ha, denL_mono h r hc]; simpa [ha, hc] using hx
end
theorem denL_cons {v : AV} {r : List AV} {x : List Value} : denL E (v :: r) = some x ↔ ∃ a b, v.den E = some a ∧ denL E r = some b ∧ x = a :: b := by
  simp only [denL]
  cases v.den E <;> cases denL E r <;> simp [eq_comm]
theorem denL_nil {x : List Value} : denL E [] = some x ↔ x = [] := by simp [denL, eq_comm]
theorem denL_length : ∀ {l : List AV} {x : List Value}, denL E l = some x → x.length = l.length
  | [], x, h => by rw [denL_nil.1 h]; rfl
  | v :: r, x, h => by obtain ⟨a, b, _, hb, rfl⟩ := denL_cons.1 h; simp [denL_length hb]
theorem denL_get : ∀ {l : List AV} {x : List Value}, denL E l = some x → ∀ {i : Nat} {v : AV}, l[i]? = some v → ∃ y, v.den E = some y ∧ x[i]? = some y
  | [], _, _, i, v, hv => by simp at hv
  | u :: r, x, h, i, v, hv => by
    obtain ⟨a, b, ha, hb, rfl⟩ := denL_cons.1 h
    cases i with
    | zero => simp at hv; subst hv; exact ⟨a, ha, by simp⟩
    | succ i => obtain ⟨y, h1, h2⟩ := denL_get hb (i := i) (v := v) (by simpa using hv); exact ⟨y, h1, by simpa using h2⟩
theorem denL_of : ∀ {l : List AV} {x : List Value}, x.length = l.length → (∀ (i : Nat) (v : AV), l[i]? = some v → ∃ y, v.den E = some y ∧ x[i]? = some y) → denL E l = some x
  | [], x, hl, _ => by simp at hl; subst hl; rfl
  | u :: r, [], hl, _ => by simp at hl
  | u :: r, y :: x, hl, h => by
    obtain ⟨z, h1, h2⟩ := h 0 u (by simp)
    simp at h2; subst h2
    exact denL_cons.2 ⟨_, _, h1, denL_of (by simpa using hl) (fun i v hv => by obtain ⟨z, a, b⟩ := h (i + 1) v (by simpa using hv); exact ⟨z, a, by simpa using b⟩), rfl⟩
theorem denL_append {l r : List AV} {x y : List Value} (h : denL E l = some x) (h' : denL E r = some y) : denL E (l ++ r) = some (x ++ y) := by
  induction l generalizing x with
  | nil => rw [denL_nil.1 h]; simpa using h'
  | cons u l ih => obtain ⟨a, b, ha, hb, rfl⟩ := denL_cons.1 h; exact denL_cons.2 ⟨a, b ++ y, ha, ih hb, rfl⟩
theorem denL_take {l : List AV} {x : List Value} (n : Nat) (h : denL E l = some x) : denL E (l.take n) = some (x.take n) := by
  induction l generalizing x n with
  | nil => rw [denL_nil.1 h]; simp [denL]
  | cons u l ih =>
    obtain ⟨a, b, ha, hb, rfl⟩ := denL_cons.1 h
    cases n with
    | zero => simp [denL]
    | succ n => exact denL_cons.2 ⟨a, _, ha, ih n hb, rfl⟩
theorem denL_drop {l : List AV} {x : List Value} (n : Nat) (h : denL E l = some x) : denL E (l.drop n) = some (x.drop n) := by
  induction l generalizing x n with
  | nil => rw [denL_nil.1 h]; simp [denL]
  | cons u l ih =>
    obtain ⟨a, b, ha, hb, rfl⟩ := denL_cons.1 h
    cases n with
    | zero => simpa using denL_cons.2 ⟨a, _, ha, hb, rfl⟩
    | succ n => simpa using ih n hb
theorem denL_set {l : List AV} {x : List Value} (i : Nat) {v : AV} {y : Value} (h : denL E l = some x) (hv : v.den E = some y) : denL E (l.set i v) = some (x.set i y) := by
  induction l generalizing x i with
  | nil => rw [denL_nil.1 h]; simp [denL]
  | cons u l ih =>
    obtain ⟨a, b, ha, hb, rfl⟩ := denL_cons.1 h
    cases i with
    | zero => exact denL_cons.2 ⟨_, _, hv, hb, rfl⟩
    | succ i => exact denL_cons.2 ⟨_, _, ha, ih i hb, rfl⟩
theorem denL_rep {l : List AV} {x : List Value} (h : denL E l = some x) : ∀ n, denL E (repL n l) = some (List.replicate n x).flatten
  | 0 => by simp [repL, denL]
  | n + 1 => by simp only [repL, List.replicate_succ, List.flatten_cons]; exact denL_append h (denL_rep h n)

theorem den_int {k : IntKind} {u : Nat} {x : Value} (h : (AV.int k u).den E = some x) : u < modOf k ∧ x = .int k (sgn k u) := by
  simp only [AV.den] at h
  split at h
  · rename_i c; cases h; exact ⟨c, rfl⟩
  · cases h
theorem den_int_of {k : IntKind} {u : Nat} (h : u < modOf k) : (AV.int k u).den E = some (.int k (sgn k u)) := by simp [AV.den, h]
theorem den_i64 {n : Nat} (h : n < 9223372036854775808) : (AV.int .i64 n).den E = some (.int .i64 (n : Int)) := by
  rw [den_int_of (by simp only [modOf]; omega), sgn_nat .i64 (by simp only [halfOf]; omega)]
theorem den_sym {k : IntKind} {t : T} {x : Value} (h : (AV.sym k t).den E = some x) : ∃ n, t.ev E.va = some (.i n) ∧ (Lit.int k n).wf = true ∧ x = .int k n := by
  simp only [AV.den] at h
  split at h
  · rename_i n hn
    split at h
    · rename_i c; cases h; exact ⟨n, hn, c, rfl⟩
    · cases h
  · cases h
theorem den_sym_of {k : IntKind} {t : T} {n : Int} (h : t.ev E.va = some (.i n)) (hw : (Lit.int k n).wf = true) : (AV.sym k t).den E = some (.int k n) := by simp [AV.den, h, hw]
theorem den_cnd {t : T} {x : Value} (h : (AV.cnd t).den E = some x) : ∃ b, t.ev E.va = some (.b b) ∧ x = .bool b := by
  simp only [AV.den] at h
  split at h
  · rename_i n hn; cases h; exact ⟨n, hn, rfl⟩
  · cases h
theorem den_cnd_of {t : T} {b : Bool} (h : t.ev E.va = some (.b b)) : (AV.cnd t).den E = some (.bool b) := by simp [AV.den, h]
theorem den_str {n : Nat} {s : List Nat} {x : Value} (h : (AV.str n s).den E = some x) : n = s.length ∧ (∀ c ∈ s, c < 256) ∧ x = .string (bytesOf s) := by
  simp only [AV.den] at h
  split at h
  · rename_i c; cases h; exact ⟨c.1, c.2, rfl⟩
  · cases h
theorem den_str_of {n : Nat} {s : List Nat} (h : n = s.length) (h' : ∀ c ∈ s, c < 256) : (AV.str n s).den E = some (.string (bytesOf s)) := by simp only [AV.den]; rw [if_pos ⟨h, h'⟩]
theorem den_agg {l : List AV} {x : Value} (h : (AV.agg l).den E = some x) : ∃ xs, denL E l = some xs ∧ x = .agg xs.toArray := by
  simp only [AV.den, Option.map_eq_some_iff] at h
  obtain ⟨xs, h1, h2⟩ := h
  exact ⟨xs, h1, h2.symm⟩
theorem den_agg_of {l : List AV} {xs : List Value} (h : denL E l = some xs) : (AV.agg l).den E = some (.agg xs.toArray) := by simp [AV.den, h]
theorem den_tuple_of {l : List AV} {xs : List Value} (h : denL E l = some xs) : (AV.tuple l).den E = some (.tuple xs.toArray) := by simp [AV.den, h]
theorem den_undef : (AV.tuple []).den E = some undef := rfl
theorem den_ptr {x : AAddr} {y : Value} (h : (AV.ptr (some x)).den E = some y) : ∃ ad, aden E x = some ad ∧ y = .pointer (some ad) := by
  simp only [AV.den, Option.map_eq_some_iff] at h
  obtain ⟨ad, h1, h2⟩ := h
  exact ⟨ad, h1, h2.symm⟩
theorem den_ptr_of {x : AAddr} {ad : Addr} (h : aden E x = some ad) : (AV.ptr (some x)).den E = some (.pointer (some ad)) := by simp [AV.den, h]
theorem aden_r {k off : Nat} {ad : Addr} (h : aden E ⟨.r k, off⟩ = some ad) : ∃ p, E.m[k]? = some (some p) ∧ ad = ⟨p.1, off + p.2, none⟩ := by
  simp only [aden] at h
  split at h
  · rename_i p hp; cases h; exact ⟨p, hp, rfl⟩
  · cases h
theorem aden_r_of {k off : Nat} {p : Nat × Nat} (h : E.m[k]? = some (some p)) : aden E ⟨.r k, off⟩ = some ⟨p.1, off + p.2, none⟩ := by simp [aden, h]

theorem toU8 {n : Nat} (h : n < 256) : (UInt8.ofNat n).toNat = n := by
  rw [UInt8.toNat_ofNat']; omega
theorem bytesOf_size (s : List Nat) : (bytesOf s).size = s.length := by
  show (s.map UInt8.ofNat).toArray.size = s.length
  rw [List.size_toArray, List.length_map]
theorem den_ofCell {v : Value} {a : AV} (h : ofCell v = some a) : a.den E = some v := by
  unfold ofCell at h
  split at h
  · cases h; rfl
  · rename_i k n
    obtain ⟨h1, h2⟩ := bif_some h
    cases h2
    rw [ieq_eq, decide_eq_true_eq] at h1
    rw [den_int_of (toU_lt _ (modOf_pos k) _), h1]
  · rename_i s
    cases h
    have hlen : s.size = (s.data.toList.map UInt8.toNat).length := by
      rw [List.length_map, Array.length_toList]; rfl
    rw [den_str_of hlen (fun c hc => by
      obtain ⟨b, _, rfl⟩ := List.mem_map.1 hc
      exact b.toNat_lt)]
    congr 2
    unfold bytesOf
    rw [List.map_map]
    have : (UInt8.ofNat ∘ UInt8.toNat) = id := by funext b; simp
    rw [this, List.map_id]
  · cases h; rfl
  · cases h; rfl
  · cases h; rfl
  · cases h; rfl
  · cases h; rfl
  · cases h
theorem denL_ofCells : ∀ {l : List Value} {a : List AV}, ofCells l = some a → denL E a = some l
  | [], a, h => by cases h; rfl
  | v :: r, a, h => by
    obtain ⟨x, hx, h⟩ := obind_inv h
    obtain ⟨y, hy, h⟩ := obind_inv h
    cases h
    exact denL_cons.2 ⟨_, _, den_ofCell hx, denL_ofCells hy, rfl⟩
theorem den_ofVal {v : Value} {a : AV} (h : ofVal v = some a) : a.den E = some v := by
  unfold ofVal at h
  split at h
  · obtain ⟨l, hl, h⟩ := obind_inv h
    cases h
    simp [AV.den, denL_ofCells hl]
  · exact den_ofCell h

/-- No bool is without a name. -/
theorem den_bool {v : AV} {b : Bool} (h : v.den E = some (.bool b)) : v = .bool b ∨ ∃ t, v = .cnd t ∧ t.ev E.va = some (.b b) := by
  cases v with
  | bool c => simp only [AV.den, Option.some.injEq, Value.bool.injEq] at h; rw [h]; exact .inl rfl
  | cnd t => obtain ⟨c, h1, h2⟩ := den_cnd h; cases h2; exact .inr ⟨t, rfl, h1⟩
  | int k u => have := (den_int h).2; cases this
  | sym k t => obtain ⟨n, _, _, h⟩ := den_sym h; cases h
  | str n s => have := (den_str h).2.2; cases this
  | ptr a => cases a <;> simp only [AV.den, Option.some.injEq, Option.map_eq_some_iff] at h <;> first | cases h; done | (obtain ⟨_, _, h⟩ := h; cases h)
  | slice a n c =>
    cases a with
    | none => cases c <;> simp only [AV.den] at h <;> (try (cases h; done)) <;> split at h <;> cases h
    | some a => simp only [AV.den] at h; split at h <;> (try (cases h; done)) <;> split at h <;> cases h
  | sl0 a i n d => simp only [AV.den] at h; split at h <;> (try (cases h; done)) <;> split at h <;> cases h
  | func f a c => simp only [AV.den] at h; split at h <;> cases h
  | yld l => simp only [AV.den] at h; split at h <;> cases h
  | iface t v => simp only [AV.den, Option.map_eq_some_iff] at h; obtain ⟨_, _, h⟩ := h; cases h
  | map r => cases r <;> simp only [AV.den] at h <;> (try (cases h; done)) <;> split at h <;> cases h
  | agg l => simp only [AV.den, Option.map_eq_some_iff] at h; obtain ⟨_, _, h⟩ := h; cases h
  | tuple l => simp only [AV.den, Option.map_eq_some_iff] at h; obtain ⟨_, _, h⟩ := h; cases h
  | opq i =>
    simp only [AV.den] at h
    split at h
    · split at h
      · rename_i hp; cases h; cases hp
      · cases h
    · cases h
  | sstr _ => simp [AV.den] at h
  | sptr _ _ => simp [AV.den] at h
  | ssl _ _ _ _ => simp [AV.den] at h
  | nilFunc => simp [AV.den] at h
  | nilIface => simp [AV.den] at h
/-- What stands in one cell. -/
theorem den_one {v : AV} {x : Value} (h : one1 v = true) (hx : v.den E = some x) : x.oneCell' = true := by
  cases v with
  | agg l => cases h
  | tuple l => cases h
  | bool c => simp only [AV.den, Option.some.injEq] at hx; subst hx; rfl
  | cnd t => obtain ⟨c, _, rfl⟩ := den_cnd hx; rfl
  | int k u => rw [(den_int hx).2]; rfl
  | sym k t => obtain ⟨n, _, _, rfl⟩ := den_sym hx; rfl
  | str n s => rw [(den_str hx).2.2]; rfl
  | ptr a => cases a <;> simp only [AV.den, Option.some.injEq, Option.map_eq_some_iff] at hx <;> first | (subst hx; rfl) | (obtain ⟨_, _, rfl⟩ := hx; rfl)
  | slice a n c =>
    cases a with
    | none =>
      cases c <;> simp only [AV.den] at hx
      · split at hx <;> cases hx; rfl
      · cases hx
      · cases hx
    | some a =>
      simp only [AV.den] at hx
      split at hx
      · split at hx <;> cases hx; rfl
      · cases hx
  | sl0 a i n d => simp only [AV.den] at hx; split at hx <;> (try (cases hx; done)) <;> split at hx <;> cases hx; rfl
  | func f a c => simp only [AV.den] at hx; split at hx <;> cases hx; rfl
  | yld l => simp only [AV.den] at hx; split at hx <;> cases hx; rfl
  | iface t v => simp only [AV.den, Option.map_eq_some_iff] at hx; obtain ⟨_, _, rfl⟩ := hx; rfl
  | map r =>
    cases r <;> simp only [AV.den] at hx
    · cases hx; rfl
    · split at hx <;> cases hx; rfl
  | opq i =>
    simp only [AV.den] at hx
    split at hx
    · split at hx
      · rename_i hp
        cases hx
        cases x <;> first | rfl | cases hp
      · cases hx
    · cases hx
  | sstr _ => simp [AV.den] at hx
  | sptr _ _ => simp [AV.den] at hx
  | ssl _ _ _ _ => simp [AV.den] at hx
  | nilFunc => simp only [AV.den, Option.some.injEq] at hx; subst hx; rfl
  | nilIface => simp only [AV.den, Option.some.injEq] at hx; subst hx; rfl
end

/-! ### What will stand for something once all blocks are there -/
def Env.fill (E : Env) : Env := { E with m := E.m.map fun o => some (o.getD (0, 0)) }
theorem fill_get (E : Env) (k : Nat) : E.fill.m[k]? = (E.m[k]?).map fun o => some (o.getD (0, 0)) := by simp [Env.fill]
theorem Env.le_fill (E : Env) : E.Le E.fill :=
  ⟨fun k p h => by rw [fill_get, h]; rfl, fun _ _ h => h, .refl _, fun _ _ h => h, fun k h => ⟨some (0, 0), by rw [fill_get, h]; rfl, fun p e => by cases e; rfl⟩⟩
def okv (E : Env) (v : AV) : Prop := ∃ x, v.den E.fill = some x
theorem okv_of {E : Env} {v : AV} {x : Value} (h : v.den E = some x) : okv E v := ⟨x, den_mono E.le_fill v h⟩
section
variable {E E' : Env}
theorem fill_aden (h : E.Le E') {a : AAddr} {x : Addr} (hx : aden E.fill a = some x) : ∃ y, aden E'.fill a = some y := by
  unfold aden at *
  cases hb : a.b with
  | g n => exact ⟨_, rfl⟩
  | r k =>
    simp only [hb, fill_get] at hx ⊢
    cases hk : E.m[k]? with
    | none => simp [hk] at hx
    | some q =>
      cases q with
      | none => obtain ⟨q, h1, _⟩ := h.h k hk; rw [h1]; exact ⟨_, rfl⟩
      | some p => rw [h.m k p hk]; exact ⟨_, rfl⟩
theorem fill_zero (h : E.Le E') {k id : Nat} (hk : E.fill.m[k]? = some (some (id, 0))) : ∃ id', E'.fill.m[k]? = some (some (id', 0)) := by
  rw [fill_get] at *
  cases hq : E.m[k]? with
  | none => simp [hq] at hk
  | some q =>
    cases q with
    | none =>
      obtain ⟨q, h1, h2⟩ := h.h k hq
      rw [h1]
      cases q with
      | none => exact ⟨0, rfl⟩
      | some p => have := h2 p rfl; obtain ⟨a, b⟩ := p; simp only at this; subst this; exact ⟨a, rfl⟩
    | some p =>
      rw [hq] at hk
      simp at hk
      rw [h.m k p hq]; subst hk; exact ⟨id, rfl⟩
mutual
theorem fill_mono (h : E.Le E') : ∀ (v : AV) {x : Value}, v.den E.fill = some x → ∃ y, v.den E'.fill = some y
  | .bool _, _, hx | .int _ _, _, hx | .str _ _, _, hx | .ptr none, _, hx | .slice none _ (.k _), _, hx | .nilFunc, _, hx | .nilIface, _, hx | .map none, _, hx => ⟨_, by simpa [AV.den] using hx⟩
  | .sstr _, _, hx | .sptr _ _, _, hx | .slice none _ (.u _ _), _, hx | .slice none _ (.t _), _, hx | .ssl _ _ _ _, _, hx => by simp [AV.den] at hx
  | .sym k t, x, hx => by
    simp only [AV.den] at hx ⊢
    have e : E.fill.va = E.va := rfl
    have e' : E'.fill.va = E'.va := rfl
    rw [e] at hx
    rw [e']
    cases ht : t.ev E.va with
    | none => simp [ht] at hx
    | some d => rw [ev_mono h.va ht]; exact ⟨x, by simpa [ht] using hx⟩
  | .cnd t, x, hx => by
    simp only [AV.den] at hx ⊢
    have e : E.fill.va = E.va := rfl
    have e' : E'.fill.va = E'.va := rfl
    rw [e] at hx
    rw [e']
    cases ht : t.ev E.va with
    | none => simp [ht] at hx
    | some d => rw [ev_mono h.va ht]; exact ⟨x, by simpa [ht] using hx⟩
  | .ptr (some a), x, hx => by
    simp only [AV.den, Option.map_eq_some_iff] at hx ⊢
    obtain ⟨y, hy, rfl⟩ := hx
    obtain ⟨z, hz⟩ := fill_aden h hy
    exact ⟨_, z, hz, rfl⟩
  | .slice (some a) n c, x, hx => by
    simp only [AV.den] at hx ⊢
    cases ha : aden E.fill a with
    | none => simp [ha] at hx
    | some y =>
      obtain ⟨z, hz⟩ := fill_aden h ha
      cases hc : cden E c with
      | none => have : cden E.fill c = none := hc; simp [ha, this] at hx
      | some m =>
        have e : cden E.fill c = some m := hc
        have e' : cden E'.fill c = some m := cden_mono h hc
        rw [ha, e] at hx
        rw [hz, e']
        simp only at hx ⊢
        split at hx
        · rename_i hn; rw [if_pos hn]; exact ⟨_, rfl⟩
        · cases hx
  | .sl0 a i n d, x, hx => by
    simp only [AV.den] at hx ⊢
    cases ha : aden E.fill a with
    | none => simp [ha] at hx
    | some y =>
      obtain ⟨z, hz⟩ := fill_aden h ha
      cases hc : E.caps[i]? with
      | none => have : E.fill.caps[i]? = none := hc; simp [ha, this] at hx
      | some m =>
        have e : E.fill.caps[i]? = some m := hc
        have e' : E'.fill.caps[i]? = some m := h.caps _ _ hc
        rw [ha, e] at hx
        rw [hz, e']
        simp only at hx ⊢
        split at hx
        · rename_i hn; rw [if_pos hn]; exact ⟨_, rfl⟩
        · cases hx
  | .func fn a b, x, hx => by
    simp only [AV.den] at hx ⊢
    cases ha : denL E.fill a with
    | none => simp [ha] at hx
    | some y =>
      cases hc : denL E.fill b with
      | none => simp [ha, hc] at hx
      | some z =>
        obtain ⟨u, hu⟩ := fillL_mono h a ha
        obtain ⟨v, hv⟩ := fillL_mono h b hc
        rw [hu, hv]; exact ⟨_, rfl⟩
  | .yld l, x, hx => by
    simp only [AV.den] at hx ⊢
    split at hx
    · rename_i id hid; obtain ⟨id', h'⟩ := fill_zero h hid; rw [h']; exact ⟨_, rfl⟩
    · cases hx
  | .iface t v, x, hx => by
    simp only [AV.den, Option.map_eq_some_iff] at hx ⊢
    obtain ⟨y, hy, rfl⟩ := hx
    obtain ⟨z, hz⟩ := fill_mono h v hy
    exact ⟨_, z, hz, rfl⟩
  | .map (some k), x, hx => by
    simp only [AV.den] at hx ⊢
    split at hx
    · rename_i id hid; obtain ⟨id', h'⟩ := fill_zero h hid; rw [h']; exact ⟨_, rfl⟩
    · cases hx
  | .agg l, x, hx => by
    simp only [AV.den, Option.map_eq_some_iff] at hx ⊢
    obtain ⟨y, hy, rfl⟩ := hx
    obtain ⟨z, hz⟩ := fillL_mono h l hy
    exact ⟨_, z, hz, rfl⟩
  | .tuple l, x, hx => by
    simp only [AV.den, Option.map_eq_some_iff] at hx ⊢
    obtain ⟨y, hy, rfl⟩ := hx
    obtain ⟨z, hz⟩ := fillL_mono h l hy
    exact ⟨_, z, hz, rfl⟩
  | .opq i, x, hx => by
    simp only [AV.den] at hx ⊢
    cases ho : E.o[i]? with
    | none => have : E.fill.o[i]? = none := ho; simp [this] at hx
    | some v =>
      have e : E.fill.o[i]? = some v := ho
      have e' : E'.fill.o[i]? = some v := h.o _ _ ho
      rw [e] at hx
      rw [e']; exact ⟨x, hx⟩
theorem fillL_mono (h : E.Le E') : ∀ (l : List AV) {x : List Value}, denL E.fill l = some x → ∃ y, denL E'.fill l = some y
  | [], _, hx => ⟨[], rfl⟩
  | v :: r, x, hx => by
    simp only [denL] at hx ⊢
    cases ha : v.den E.fill with
    | none => simp [ha] at hx
    | some y =>
      cases hc : denL E.fill r with
      | none => simp [ha, hc] at hx
      | some z =>
        obtain ⟨u, hu⟩ := fill_mono h v ha
        obtain ⟨w, hw⟩ := fillL_mono h r hc
        rw [hu, hw]; exact ⟨_, rfl⟩
end
theorem okv.mono (h : E.Le E') {v : AV} (hv : okv E v) : okv E' v := let ⟨_, hx⟩ := hv; fill_mono h v hx
end

/-! ### Blocks that are kept -/
structure Kept (K : Nat → Prop) (w w' : World) : Prop where
  os : w'.os = w.os
  tape : w'.tape = w.tape
  output : w'.output = w.output
  size : w.heap.size ≤ w'.heap.size
  block : ∀ k, K k → w'.heap[k]? = w.heap[k]?
theorem Kept.refl (K : Nat → Prop) (w : World) : Kept K w w := ⟨rfl, rfl, rfl, Nat.le_refl _, fun _ _ => rfl⟩
theorem Kept.trans {K : Nat → Prop} {a b c : World} (h : Kept K a b) (k : Kept K b c) : Kept K a c :=
  ⟨k.os.trans h.os, k.tape.trans h.tape, k.output.trans h.output, Nat.le_trans h.size k.size, fun i hi => (k.block i hi).trans (h.block i hi)⟩
theorem Kept.mono {K K' : Nat → Prop} {w w' : World} (h : Kept K w w') (hK : ∀ k, K' k → K k) : Kept K' w w' := ⟨h.os, h.tape, h.output, h.size, fun k hk => h.block k (hK k hk)⟩
theorem Kept.below {B : Nat} {w w' : World} (h : Kept (· < B) w w') : Go.RowKit.Below B w w' := ⟨h.os, h.tape, h.output, h.size, h.block⟩
theorem Kept.of_below {B : Nat} {w w' : World} (h : Go.RowKit.Below B w w') : Kept (· < B) w w' := ⟨h.os, h.tape, h.output, h.size, h.block⟩

/-! ### Memory -/
structure BlkRel (E : Env) (b : Blk) (sh : Nat) (cs : Array Value) (fr : Nat × Nat) : Prop where
  free : fr.1 = fr.2 ∨ cs.size ≤ fr.1
  room : b.sz + sh ≤ cs.size
  bnd : ∀ i v, b.cells.get i = some v → i < b.sz
  cap : ∀ i, b.cv = i + 1 → ∃ c, E.caps[i]? = some c ∧ c * b.es + sh ≤ cs.size ∧ b.sz ≤ c * b.es
  cells : ∀ i v, b.cell i = some v → ∃ x, v.den E = some x ∧ cs[i + sh]? = some x
theorem BlkRel.free' {E : Env} {b : Blk} {sh : Nat} {cs : Array Value} {fr : Nat × Nat} (h : BlkRel E b sh cs fr) : ∀ j, j < cs.size → ¬ (fr.1 ≤ j ∧ j < fr.2) := by
  intro j hj ⟨h1, h2⟩
  rcases h.free with e | e <;> omega
theorem BlkRel.mono {E E' : Env} (h : E.Le E') {b : Blk} {sh : Nat} {cs : Array Value} {fr : Nat × Nat} (hb : BlkRel E b sh cs fr) : BlkRel E' b sh cs fr :=
  ⟨hb.free, hb.room, hb.bnd, fun i hi => let ⟨c, h1, h2⟩ := hb.cap i hi; ⟨c, h.caps _ _ h1, h2⟩, fun i v hv => let ⟨x, h1, h2⟩ := hb.cells i v hv; ⟨x, den_mono h _ h1, h2⟩⟩

def lstOf : LSt → LoopState
  | .ready => .ready
  | .busy => .busy
  | .done => .done
  | .over => .exhausted
/-- The frame's slots. -/
structure SlotRel (E : Env) (tm : Tm) (tmps : Array Value) : Prop where
  slots : ∀ t, ∃ x, (slot tm (pth t)).den E = some x ∧ tmps.getD t undef = x
theorem SlotRel.mono {E E' : Env} (hE : E.Le E') {tm : Tm} {tmps : Array Value} (h : SlotRel E tm tmps) : SlotRel E' tm tmps :=
  ⟨fun t => let ⟨x, h1, h2⟩ := h.slots t; ⟨x, den_mono hE _ h1, h2⟩⟩

def EntRel (E : Env) (e : AV × AV × Nat) (m : MapEntry) : Prop := e.1.den E = some m.key ∧ e.2.1.den E = some m.val ∧ e.2.2 = m.born
def EntsRel (E : Env) : List (AV × AV × Nat) → List MapEntry → Prop
  | [], [] => True
  | e :: l, m :: r => EntRel E e m ∧ EntsRel E l r
  | _, _ => False
theorem EntsRel.mono {E E' : Env} (h : E.Le E') : ∀ {l : List (AV × AV × Nat)} {r : List MapEntry}, EntsRel E l r → EntsRel E' l r
  | [], [], _ => trivial
  | _ :: _, _ :: _, ⟨⟨h1, h2, h3⟩, h4⟩ => ⟨⟨den_mono h _ h1, den_mono h _ h2, h3⟩, EntsRel.mono h h4⟩
  | [], _ :: _, h => h.elim
  | _ :: _, [], h => h.elim

/-- A program's tables. -/
structure Tabs where
  P : Program
  cx : Cx
  mixed : P.follows .mixedOrders = true
def CRel (X : Tabs) (f : FuncId) (c : BC) (code : Code) : Prop := cCode X.cx.und X.cx.size X.cx.zero f code = c
noncomputable def jumpRel : Option BC → Option Code → Prop
  | none, none => True
  | some c, some d => (c = .ret ∧ d = .ret) ∨ (∃ i, c = .exit i ∧ d = .exit i) ∨ ∃ l, c = .goto l ∧ d = .goto l
  | _, _ => False
def ObRel (X : Tabs) (E : Env) : Ob → Obj → Prop
  | .map es clock, .map ms c => clock = c ∧ EntsRel E es ms.toList
  | .strIt n s pos, .stringIter b p => n = s.length ∧ (∀ c ∈ s, c < 256) ∧ b = bytesOf s ∧ p = pos
  | .mapIt m since seen stepped, .mapIter r c l d => (match m, r with
      | none, none => True
      | some k, some id => E.m[k]? = some (some (id, 0))
      | _, _ => False) ∧ since = c ∧ l.toList = seen ∧ stepped = d
  | .loop s p f tm ps a b d, .loop L => L.state = lstOf s ∧ jumpRel p L.pending ∧ SlotRel E tm L.tmps ∧ ps = L.params.toList.map pth ∧ CRel X f a L.assign ∧ CRel X f b L.body ∧
      okCode L.tmps.size L.assign = true ∧ okCode L.tmps.size L.body = true ∧ (∀ p ∈ L.params.toList, p < L.tmps.size) ∧ E.m[d]? = some (some (L.defers, 0))
  | .dfr true, .deferred ds => ds = some []
  | .dfr false, .deferred ds => ds = none
  | _, _ => False
theorem ObRel.mono {X : Tabs} {E E' : Env} (h : E.Le E') {o : Ob} {ob : Obj} (ho : ObRel X E o ob) : ObRel X E' o ob := by
  cases o <;> cases ob <;> first | exact ho | (rename_i b _; cases b <;> exact ho) | skip
  all_goals simp only [ObRel] at ho ⊢
  · exact ⟨ho.1, ho.2.mono h⟩
  · obtain ⟨h1, h2⟩ := ho
    refine ⟨?_, h2⟩
    split at h1
    · trivial
    · exact h.m _ _ h1
    · exact h1.elim
  · obtain ⟨h1, h2, h4, h5, h6, h7, h8, h9, h10, h11⟩ := ho
    exact ⟨h1, h2, h4.mono h, h5, h6, h7, h8, h9, h10, h.m _ _ h11⟩
theorem ObRel.notCells {X : Tabs} {E : Env} {o : Ob} {cs : Array Value} {el : TypeId} {fr : Nat × Nat} (h : ObRel X E o (.cells cs el fr)) : False := by cases o <;> simp only [ObRel] at h <;> (rename_i b; cases b <;> exact h)

structure StRel (X : Tabs) (K : Nat → Prop) (w0 : World) (E : Env) (st : St) (w : World) : Prop where
  n_eq : E.m.length = st.n
  c_eq : E.caps.length = st.nc
  z_eq : E.z.length = st.x.nz
  a_eq : E.a.length = st.x.na
  o_eq : E.o.length = st.x.no
  klt : ∀ k, K k → k < w0.heap.size
  kept : Kept K w0 w
  ids : ∀ (k : Nat) (p : Nat × Nat), E.m[k]? = some (some p) → ¬ K p.1 ∧ p.1 < w.heap.size
  lt : ∀ k b, st.heap.get k = some b → k < st.n ∧ b.fam < st.n
  blks : ∀ k b, st.heap.get k = some b → (E.m[k]? = some none ∧ b.cv = 0 ∧ ∀ i v, b.cell i = some v → okv E v) ∨ ∃ id sh cs el fr, E.m[k]? = some (some (id, sh)) ∧ w.heap[id]? = some (.cells cs el fr) ∧ BlkRel E b sh cs fr
  fams : ∀ k1 k2 b1 b2 id1 sh1 id2 sh2, st.heap.get k1 = some b1 → st.heap.get k2 = some b2 → E.m[k1]? = some (some (id1, sh1)) → E.m[k2]? = some (some (id2, sh2)) → b1.fam ≠ b2.fam → id1 ≠ id2
  livelt : ∀ (f : Nat) (l : List Nat), st.live.get f = some l → f < st.n
  lives : ∀ k b, st.heap.get k = some b → ∀ k' b', st.heap.get k' = some b' → b'.fam = b.fam → k' ∈ famOf st b k
  objs : ∀ k o, st.x.objs.get k = some o → k < st.n ∧ (E.m[k]? = some none ∨ ∃ id ob, E.m[k]? = some (some (id, 0)) ∧ w.heap[id]? = some ob ∧ ObRel X E o ob)
  oinj : ∀ k1 k2 o1 o2 p, st.x.objs.get k1 = some o1 → st.x.objs.get k2 = some o2 → E.m[k1]? = some (some p) → E.m[k2]? = some (some p) → k1 = k2
  apart : ∀ k o, st.x.objs.get k = some o → st.heap.get k = none
  facts : FOK E.va st.x.facts
  famh : ∀ k b p, st.heap.get k = some b → E.m[k]? = some (some p) → ∃ q, E.m[b.fam]? = some (some q)
  liveh : ∀ (f : Nat) (l : List Nat), st.live.get f = some l → (∃ q, E.m[f]? = some (some q)) ∧ ∀ j ∈ l, ∃ q, E.m[j]? = some (some q)

/-- What has no place yet is as it was. -/
def HP (E E' : Env) (st st' : St) : Prop := ∀ k, E.m[k]? = some none → E'.m[k]? = some none ∧ st'.heap.get k = st.heap.get k ∧ st'.x.objs.get k = st.x.objs.get k ∧ st'.live.get k = st.live.get k
theorem HP.refl (E : Env) (st : St) : HP E E st st := fun _ h => ⟨h, rfl, rfl, rfl⟩
theorem HP.trans {E E' E'' : Env} {st st' st'' : St} (h : HP E E' st st') (h' : HP E' E'' st' st'') : HP E E'' st st'' := fun k hk => by
  obtain ⟨a, b, c, i⟩ := h k hk
  obtain ⟨d, e, f, j⟩ := h' k a
  exact ⟨d, e.trans b, f.trans c, j.trans i⟩

/-- The marks of the loops over functions that an activation has gone through. -/
def DfRel (E : Env) : List Nat → List Deferred → Prop
  | [], [] => True
  | d :: l, x :: r => (∃ id, E.m[d]? = some (some (id, 0)) ∧ x = { target := .collected id, args := #[] }) ∧ DfRel E l r
  | _, _ => False
theorem DfRel.mono {E E' : Env} (h : E.Le E') : ∀ {l : List Nat} {r : List Deferred}, DfRel E l r → DfRel E' l r
  | [], [], _ => trivial
  | _ :: _, _ :: _, ⟨⟨id, h1, h2⟩, h3⟩ => ⟨⟨id, h.m _ _ h1, h2⟩, DfRel.mono h h3⟩
  | [], _ :: _, h => h.elim
  | _ :: _, [], h => h.elim
structure TmRel (E : Env) (tm : Tm) (ds : List Nat) (a : Act) (N : Nat) : Prop where
  size : a.tmps.size = N
  defers : DfRel E ds a.defers
  rel : SlotRel E tm a.tmps
theorem TmRel.mono {E E' : Env} {tm : Tm} {ds : List Nat} {a : Act} {N : Nat} (h : TmRel E tm ds a N) (hE : E.Le E') : TmRel E' tm ds a N := ⟨h.size, h.defers.mono hE, h.rel.mono hE⟩
theorem slot_put (tm : Tm) (p q : Px) (v : AV) : slot (Tr.put p tm (some v)) q = v ∧ p = q ∨ slot (Tr.put p tm (some v)) q = slot tm q ∧ p ≠ q := by
  by_cases e : p = q
  · subst e; left; unfold slot; rw [Tr.getP_put_same]; exact ⟨rfl, rfl⟩
  · right; unfold slot; rw [Tr.getP_put_other _ _ e]; exact ⟨rfl, e⟩
theorem slot_put_same (tm : Tm) (p : Px) (v : AV) : slot (Tr.put p tm (some v)) p = v := by unfold slot; rw [Tr.getP_put_same]
theorem slot_put_other (tm : Tm) {p q : Px} (v : AV) (h : p ≠ q) : slot (Tr.put p tm (some v)) q = slot tm q := by unfold slot; rw [Tr.getP_put_other _ _ h]
theorem SlotRel.put {E : Env} {tm : Tm} {tmps : Array Value} (h : SlotRel E tm tmps) {d : Nat} (hd : d < tmps.size) {v : AV} {x : Value} (hv : v.den E = some x) : SlotRel E (Tr.put (pth d) tm (some v)) (tmps.setIfInBounds d x) := by
  refine ⟨fun t => ?_⟩
  by_cases e : d = t
  · subst e
    rw [slot_put_same]
    refine ⟨x, hv, ?_⟩
    simp [Array.getD_eq_getD_getElem?, hd]
  · rw [slot_put_other _ _ (fun h => e (pth_inj h))]
    obtain ⟨y, h1, h2⟩ := h.slots t
    refine ⟨y, h1, ?_⟩
    rw [← h2]
    simp [Array.getD_eq_getD_getElem?, e]
theorem TmRel.put {E : Env} {tm : Tm} {ds : List Nat} {a : Act} {N : Nat} (h : TmRel E tm ds a N) {d : Nat} (hd : d < N) {v : AV} {x : Value} (hv : v.den E = some x) :
    TmRel E (Tr.put (pth d) tm (some v)) ds (a.put (some d) x) N :=
  ⟨by simp [Act.put, h.size], h.defers, h.rel.put (by rw [h.size]; exact hd) hv⟩
end Go.Sy
