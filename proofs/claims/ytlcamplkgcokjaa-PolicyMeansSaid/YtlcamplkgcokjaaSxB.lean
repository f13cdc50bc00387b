import Derived.Test.YtlcamplkgcokjaaSxA
import Derived.Below
import Derived.Lib.FrozenHead
import Derived.Laws.Cells
import Derived.WalkKit
/-! What abstract values and memory stand for. -/
namespace Go.Sx
open Go.RowKit (Below)

structure Env where
  m : List (Nat × Nat)
  caps : List Nat

def Env.Le (E E' : Env) : Prop := (∃ l, E'.m = E.m ++ l) ∧ (∃ l, E'.caps = E.caps ++ l)
theorem Env.Le.refl (E : Env) : E.Le E := ⟨⟨[], by simp⟩, ⟨[], by simp⟩⟩
theorem Env.Le.trans {a b c : Env} (h : a.Le b) (h' : b.Le c) : a.Le c := by
  obtain ⟨⟨l, h1⟩, ⟨r, h2⟩⟩ := h
  obtain ⟨⟨l', h1'⟩, ⟨r', h2'⟩⟩ := h'
  exact ⟨⟨l ++ l', by rw [h1', h1, List.append_assoc]⟩, ⟨r ++ r', by rw [h2', h2, List.append_assoc]⟩⟩
theorem Env.Le.m_get {E E' : Env} (h : E.Le E') {k : Nat} {p : Nat × Nat} (hk : E.m[k]? = some p) : E'.m[k]? = some p := by
  obtain ⟨⟨l, h1⟩, _⟩ := h
  rw [h1, List.getElem?_append_left (List.getElem?_eq_some_iff.1 hk).1]; exact hk
theorem Env.Le.c_get {E E' : Env} (h : E.Le E') {k : Nat} {p : Nat} (hk : E.caps[k]? = some p) : E'.caps[k]? = some p := by
  obtain ⟨_, ⟨l, h1⟩⟩ := h
  rw [h1, List.getElem?_append_left (List.getElem?_eq_some_iff.1 hk).1]; exact hk

def aden (E : Env) (a : AAddr) : Option Addr :=
  match a.b with
  | .g g => some ⟨g, a.off, none⟩
  | .r k => match E.m[k]? with
    | some p => some ⟨p.1, a.off + p.2, none⟩
    | none => none
def cden (E : Env) : Cap → Option Nat
  | .k n => some n
  | .u i sub => match E.caps[i]? with
    | some c => if sub ≤ c then some (c - sub) else none
    | none => none

section
variable (σ : Nat → Option Value) (E : Env)
mutual
def AV.den : AV → Option Value
  | .bool b => some (.bool b)
  | .int k n => some (.int k n)
  | .str s => some (.string s)
  | .ptr none => some (.pointer none)
  | .ptr (some a) => (aden E a).map fun x => .pointer (some x)
  | .slice none n (.k c) => if n = 0 ∧ c = 0 then some (.slice none 0 0) else none
  | .slice none _ (.u _ _) => none
  | .slice (some a) n c => match aden E a, cden E c with
    | some x, some c => if n ≤ c then some (.slice (some x) n c) else none
    | _, _ => none
  | .func fn a b => match denL a, denL b with
    | some x, some y => some (.func fn x.toArray y.toArray)
    | _, _ => none
  | .nilFunc => some .nilFunc
  | .iface t v => (AV.den v).map (.iface t)
  | .nilIface => some .nilIface
  | .map none => some (.map none)
  | .map (some _) => none
  | .agg l => (denL l).map fun x => .agg x.toArray
  | .tuple l => (denL l).map fun x => .tuple x.toArray
  | .opq i => σ i
def denL : List AV → Option (List Value)
  | [] => some []
  | v :: r => match AV.den v, denL r with
    | some x, some y => some (x :: y)
    | _, _ => none
end
end

section
variable {σ : Nat → Option Value} {E E' : Env}
theorem aden_mono (h : E.Le E') {a : AAddr} {x : Addr} (hx : aden E a = some x) : aden E' a = some x := by
  unfold aden at *
  cases hb : a.b with
  | g n => simpa [hb] using hx
  | r k =>
    simp only [hb] at hx ⊢
    cases hk : E.m[k]? with
    | none => simp [hk] at hx
    | some p => rw [h.m_get hk]; simpa [hk] using hx
theorem cden_mono (h : E.Le E') {c : Cap} {n : Nat} (hx : cden E c = some n) : cden E' c = some n := by
  cases c with
  | k n => exact hx
  | u i sub =>
    simp only [cden] at hx ⊢
    cases hk : E.caps[i]? with
    | none => simp [hk] at hx
    | some p => rw [h.c_get hk]; simpa [hk] using hx
mutual
theorem den_mono (h : E.Le E') : ∀ (v : AV) {x : Value}, v.den σ E = some x → v.den σ E' = some x
  | .bool _, _, hx | .int _ _, _, hx | .str _, _, hx | .ptr none, _, hx | .slice none _ (.k _), _, hx | .nilFunc, _, hx | .nilIface, _, hx | .map none, _, hx | .opq _, _, hx => by simpa [AV.den] using hx
  | .ptr (some a), x, hx => by
    simp only [AV.den, Option.map_eq_some_iff] at hx ⊢
    obtain ⟨y, hy, rfl⟩ := hx
    exact ⟨y, aden_mono h hy, rfl⟩
  | .slice none _ (.u _ _), _, hx => by simp [AV.den] at hx
  | .slice (some a) n c, x, hx => by
    simp only [AV.den] at hx ⊢
    cases ha : aden E a with
    | none => simp [ha] at hx
    | some y =>
      cases hc : cden E c with
      | none => simp [ha, hc] at hx
      | some z => rw [aden_mono h ha, cden_mono h hc]; simpa [ha, hc] using hx
  | .func fn a b, x, hx => by
    simp only [AV.den] at hx ⊢
    cases ha : denL σ E a with
    | none => simp [ha] at hx
    | some y =>
      cases hc : denL σ E b with
      | none => simp [ha, hc] at hx
      | some z => rw [denL_mono h a ha, denL_mono h b hc]; simpa [ha, hc] using hx
  | .iface t v, x, hx => by
    simp only [AV.den, Option.map_eq_some_iff] at hx ⊢
    obtain ⟨y, hy, rfl⟩ := hx
    exact ⟨y, den_mono h v hy, rfl⟩
  | .map (some _), _, hx => by simp [AV.den] at hx
  | .agg l, x, hx => by
    simp only [AV.den, Option.map_eq_some_iff] at hx ⊢
    obtain ⟨y, hy, rfl⟩ := hx
    exact ⟨y, denL_mono h l hy, rfl⟩
  | .tuple l, x, hx => by
    simp only [AV.den, Option.map_eq_some_iff] at hx ⊢
    obtain ⟨y, hy, rfl⟩ := hx
    exact ⟨y, denL_mono h l hy, rfl⟩
theorem denL_mono (h : E.Le E') : ∀ (l : List AV) {x : List Value}, denL σ E l = some x → denL σ E' l = some x
  | [], _, hx => by simpa [denL] using hx
  | v :: r, x, hx => by
    simp only [denL] at hx ⊢
    cases ha : v.den σ E with
    | none => simp [ha] at hx
    | some y =>
      cases hc : denL σ E r with
      | none => simp [ha, hc] at hx
      | some z => rw [den_mono h v ha, denL_mono h r hc]; simpa [ha, hc] using hx
end
theorem denL_cons {v : AV} {r : List AV} {x : List Value} : denL σ E (v :: r) = some x ↔ ∃ a b, v.den σ E = some a ∧ denL σ E r = some b ∧ x = a :: b := by
  simp only [denL]
  cases v.den σ E <;> cases denL σ E r <;> simp [eq_comm]
theorem denL_nil {x : List Value} : denL σ E [] = some x ↔ x = [] := by simp [denL, eq_comm]
theorem denL_length : ∀ {l : List AV} {x : List Value}, denL σ E l = some x → x.length = l.length
  | [], x, h => by rw [denL_nil.1 h]; rfl
  | v :: r, x, h => by obtain ⟨a, b, _, hb, rfl⟩ := denL_cons.1 h; simp [denL_length hb]
theorem denL_get : ∀ {l : List AV} {x : List Value}, denL σ E l = some x → ∀ {i : Nat} {v : AV}, l[i]? = some v → ∃ y, v.den σ E = some y ∧ x[i]? = some y
  | [], _, _, i, v, hv => by simp at hv
  | u :: r, x, h, i, v, hv => by
    obtain ⟨a, b, ha, hb, rfl⟩ := denL_cons.1 h
    cases i with
    | zero => simp at hv; subst hv; exact ⟨a, ha, by simp⟩
    | succ i => obtain ⟨y, h1, h2⟩ := denL_get hb (i := i) (v := v) (by simpa using hv); exact ⟨y, h1, by simpa using h2⟩
theorem denL_of : ∀ {l : List AV} {x : List Value}, x.length = l.length → (∀ (i : Nat) (v : AV), l[i]? = some v → ∃ y, v.den σ E = some y ∧ x[i]? = some y) → denL σ E l = some x
  | [], x, hl, _ => by simp at hl; subst hl; rfl
  | u :: r, [], hl, _ => by simp at hl
  | u :: r, y :: x, hl, h => by
    obtain ⟨z, h1, h2⟩ := h 0 u (by simp)
    simp at h2; subst h2
    exact denL_cons.2 ⟨_, _, h1, denL_of (by simpa using hl) (fun i v hv => by obtain ⟨z, a, b⟩ := h (i + 1) v (by simpa using hv); exact ⟨z, a, by simpa using b⟩), rfl⟩
theorem denL_append {l r : List AV} {x y : List Value} (h : denL σ E l = some x) (h' : denL σ E r = some y) : denL σ E (l ++ r) = some (x ++ y) := by
  induction l generalizing x with
  | nil => rw [denL_nil.1 h]; simpa using h'
  | cons u l ih => obtain ⟨a, b, ha, hb, rfl⟩ := denL_cons.1 h; exact denL_cons.2 ⟨a, b ++ y, ha, ih hb, rfl⟩
theorem denL_take {l : List AV} {x : List Value} (n : Nat) (h : denL σ E l = some x) : denL σ E (l.take n) = some (x.take n) := by
  induction l generalizing x n with
  | nil => rw [denL_nil.1 h]; simp [denL]
  | cons u l ih =>
    obtain ⟨a, b, ha, hb, rfl⟩ := denL_cons.1 h
    cases n with
    | zero => simp [denL]
    | succ n => exact denL_cons.2 ⟨a, _, ha, ih n hb, rfl⟩
theorem denL_drop {l : List AV} {x : List Value} (n : Nat) (h : denL σ E l = some x) : denL σ E (l.drop n) = some (x.drop n) := by
  induction l generalizing x n with
  | nil => rw [denL_nil.1 h]; simp [denL]
  | cons u l ih =>
    obtain ⟨a, b, ha, hb, rfl⟩ := denL_cons.1 h
    cases n with
    | zero => simpa using denL_cons.2 ⟨a, _, ha, hb, rfl⟩
    | succ n => simpa using ih n hb
theorem denL_set {l : List AV} {x : List Value} (i : Nat) {v : AV} {y : Value} (h : denL σ E l = some x) (hv : v.den σ E = some y) : denL σ E (l.set i v) = some (x.set i y) := by
  induction l generalizing x i with
  | nil => rw [denL_nil.1 h]; simp [denL]
  | cons u l ih =>
    obtain ⟨a, b, ha, hb, rfl⟩ := denL_cons.1 h
    cases i with
    | zero => exact denL_cons.2 ⟨_, _, hv, hb, rfl⟩
    | succ i => exact denL_cons.2 ⟨_, _, ha, ih i hb, rfl⟩
theorem denL_rep {l : List AV} {x : List Value} (h : denL σ E l = some x) : ∀ n, denL σ E (repL n l) = some (List.replicate n x).flatten
  | 0 => by simp [repL, denL]
  | n + 1 => by simp only [repL, List.replicate_succ, List.flatten_cons]; exact denL_append h (denL_rep h n)

theorem den_ofCell {v : Value} {a : AV} (h : ofCell v = some a) : a.den σ E = some v := by
  unfold ofCell at h
  split at h <;> first | (cases h; rfl) | cases h
theorem denL_ofCells : ∀ {l : List Value} {a : List AV}, ofCells l = some a → denL σ E a = some l
  | [], a, h => by cases h; rfl
  | v :: r, a, h => by
    obtain ⟨x, hx, h⟩ := obind_inv h
    obtain ⟨y, hy, h⟩ := obind_inv h
    cases h
    exact denL_cons.2 ⟨_, _, den_ofCell hx, denL_ofCells hy, rfl⟩
theorem den_ofVal {v : Value} {a : AV} (h : ofVal v = some a) : a.den σ E = some v := by
  unfold ofVal at h
  split at h
  · obtain ⟨l, hl, h⟩ := obind_inv h
    cases h
    simp [AV.den, denL_ofCells hl]
  · exact den_ofCell h
end

/-- The frame's slots. -/
structure TmRel (σ : Nat → Option Value) (E : Env) (tm : Tm) (a : Act) (N : Nat) : Prop where
  size : a.tmps.size = N
  defers : a.defers = []
  slots : ∀ t, ∃ x, (slot tm t).den σ E = some x ∧ a.tmps.getD t undef = x

theorem TmRel.mono {σ : Nat → Option Value} {E E' : Env} {tm : Tm} {a : Act} {N : Nat} (h : TmRel σ E tm a N) (hE : E.Le E') : TmRel σ E' tm a N :=
  ⟨h.size, h.defers, fun t => let ⟨x, h1, h2⟩ := h.slots t; ⟨x, den_mono hE _ h1, h2⟩⟩
theorem slot_set (tm : Tm) (d : Nat) (v : AV) (t : Nat) : slot (tm.set d (some v)) t = if d = t then v else slot tm t := by
  unfold slot
  rw [Tr.get_set]
  split <;> rfl
theorem TmRel.put {σ : Nat → Option Value} {E : Env} {tm : Tm} {a : Act} {N : Nat} (h : TmRel σ E tm a N) {d : Nat} (hd : d < N) {v : AV} {x : Value} (hv : v.den σ E = some x) :
    TmRel σ E (tm.set d (some v)) (a.put (some d) x) N := by
  refine ⟨by simp [Act.put, h.size], by simp [Act.put, h.defers], fun t => ?_⟩
  rw [slot_set]
  by_cases e : d = t
  · subst e
    refine ⟨x, by simpa using hv, ?_⟩
    simp [Act.put, Array.getD_eq_getD_getElem?, h.size, hd]
  · obtain ⟨y, h1, h2⟩ := h.slots t
    refine ⟨y, by simpa [e] using h1, ?_⟩
    rw [← h2]
    simp [Act.put, Array.getD_eq_getD_getElem?, e]

/-- Memory. -/
structure BlkRel (σ : Nat → Option Value) (E : Env) (b : Blk) (sh : Nat) (cs : Array Value) (fr : Nat × Nat) : Prop where
  free : fr = (0, 0)
  room : b.sz + sh ≤ cs.size
  bnd : ∀ i v, b.cells.get i = some v → i < b.sz
  cap : ∀ i, b.cv = i + 1 → ∃ c, E.caps[i]? = some c ∧ c * b.es + sh ≤ cs.size
  cells : ∀ i v, b.cells.get i = some v → ∃ x, v.den σ E = some x ∧ cs[i + sh]? = some x

structure StRel (σ : Nat → Option Value) (B : Nat) (w0 : World) (E : Env) (st : St) (w : World) : Prop where
  n_eq : E.m.length = st.n
  c_eq : E.caps.length = st.nc
  base : B ≤ w0.heap.size
  below : Below B w0 w
  ids : ∀ (k : Nat) (p : Nat × Nat), E.m[k]? = some p → B ≤ p.1 ∧ p.1 < w.heap.size
  lt : ∀ k b, st.heap.get k = some b → k < st.n ∧ b.fam < st.n
  blks : ∀ k b, st.heap.get k = some b → ∃ id sh cs el fr, E.m[k]? = some (id, sh) ∧ w.heap[id]? = some (.cells cs el fr) ∧ BlkRel σ E b sh cs fr
  fams : ∀ k1 k2 b1 b2 id1 sh1 id2 sh2, st.heap.get k1 = some b1 → st.heap.get k2 = some b2 → E.m[k1]? = some (id1, sh1) → E.m[k2]? = some (id2, sh2) → b1.fam ≠ b2.fam → id1 ≠ id2
  livelt : ∀ (f : Nat) (l : List Nat), st.live.get f = some l → f < st.n
  lives : ∀ k b, st.heap.get k = some b → ∀ k' b', st.heap.get k' = some b' → b'.fam = b.fam → k' ∈ famOf st b k
end Go.Sx
