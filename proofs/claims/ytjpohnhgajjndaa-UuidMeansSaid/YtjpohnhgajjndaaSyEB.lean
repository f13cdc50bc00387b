import Derived.Test.YtjpohnhgajjndaaSyEA
/-! Append. -/
namespace Go.Sy
section
variable {X : Tabs} {K : Nat → Prop} {w0 : World} {E : Env} {st : St} {w : World} {Θ : Pred} {R : List Back} {tm : Tm} {k : Kt} {o : Oper}

theorem growBy_le (n : Nat) : ∀ (f c : Nat), c ≤ n + (n + 768) / 4 → Builtin.growBy n f c ≤ n + (n + 768) / 4
  | 0, c, h => h
  | f + 1, c, h => by
    simp only [Builtin.growBy]
    split
    · exact h
    · exact growBy_le n f _ (by omega)
theorem nextcap_le {need c : Nat} (h : c < need) (hn : need ≤ 16777216) : Builtin.nextslicecap need c ≤ 33554432 := by
  unfold Builtin.nextslicecap
  split
  · omega
  · split
    · omega
    · have := growBy_le need 4 c (by omega); omega

/-- The run of an append. -/
theorem run_append (hc : CxOK X K w0) {t u e : TypeId} {du : TypeDesc} {sz n m cap : Nat} {z : List AV} {ad : Option Addr} {ty : TypeId} {yx : Value} {old new : List Value}
    (ht : X.P.underlying t = some (.slice e)) (hu : X.P.underlying u = some du) (hsrc : srcD du = true) (hz : X.cx.zero.get e = some z) (hs : X.cx.size.get e = some sz) (hneed : n + m ≤ 16777216) (hlen : ∀ w, (Builtin.lenOf yx).run X.P w = .ok m w)
    (hnew : (Builtin.firstCells sz m yx).run X.P w = .ok new.toArray w) (hold : (Builtin.firstCells sz n (.slice ad n cap)).run X.P w.drew = .ok old.toArray w.drew)
    (hnew' : (Builtin.firstCells sz m yx).run X.P w.drew = .ok new.toArray w.drew) :
    (n + m ≤ cap → ∀ w', (match ad with | some p => (Go.storeCells (p.add (n * sz)) new).run X.P w = .ok () w' | none => w' = w) →
      (Builtin.append_ #[t, u] ty #[.slice ad n cap, yx]).run X.P w = .ok (.slice ad (n + m) cap) w') ∧
    (¬ n + m ≤ cap → ∃ c rest, n + m ≤ c ∧ rest.size = (c - (n + m)) * sz ∧
      (Builtin.append_ #[t, u] ty #[.slice ad n cap, yx]).run X.P w = .ok (.slice (some ⟨w.heap.size, 0, none⟩) (n + m) c) (w.drew.alloc (.cells ((old ++ new).toArray ++ rest) e))) := by
  obtain ⟨ie, zv, h1, h2, h3, h4, h5, _⟩ := hc.zero e z hz
  obtain ⟨ie', hie, hsz⟩ := hc.size e sz hs
  rw [h1] at hie; cases hie
  have hzl := denL_length (h5 ⟨[], [], [], [], []⟩)
  constructor
  · intro hle w' hw'
    cases ad with
    | none =>
      subst hw'
      cases du <;> first | (cases hsrc; done) | simp [Builtin.append_, run_underlying ht, run_underlying hu, hc.size' hs, hlen, hle, hnew]
    | some p =>
      cases du <;> first | (cases hsrc; done) | simp [Builtin.append_, run_underlying ht, run_underlying hu, hc.size' hs, hlen, hle, hnew, hw']
  · intro hgt
    have hcap : cap < n + m := by omega
    have hnc := nextcap_le hcap hneed
    have hb : ¬ (Builtin.nextslicecap (n + m) cap * ie.bytes > 2 ^ 48) := by
      have : Builtin.nextslicecap (n + m) cap * ie.bytes ≤ 33554432 * 1048576 := Nat.mul_le_mul hnc h4
      omega
    have hb' : ¬ (281474976710656 < Builtin.nextslicecap (n + m) cap * ie.bytes) := by simpa using hb
    have hmax' : ¬ (9223372036854775807 < (n : Int) + (m : Int)) := by omega
    have hf : (Question.appendCap (n + m) cap e).forced = false := rfl
    have happ : ∀ Z : Array Value, old.toArray ++ (new.toArray ++ Z) = (old ++ new).toArray ++ Z := fun Z => by apply Array.ext'; simp
    refine ⟨(Question.appendCap (n + m) cap e).cut (w.tape w.drawn (.appendCap (n + m) cap e)), Builtin.zeroCells zv.cells ((Question.appendCap (n + m) cap e).cut (w.tape w.drawn (.appendCap (n + m) cap e)) - (n + m)), ?_, ?_, ?_⟩
    · simp only [Question.cut]; omega
    · have : zv.cells.size = sz := by rw [← hsz, h3, ← hzl]; simp
      simp [Builtin.zeroCells, this]
    · cases du <;> first | (cases hsrc; done) | simp [Builtin.append_, run_underlying ht, run_underlying hu, hc.size' hs, hlen, hgt, typeInfo, h1, hb', hmax', hf, hold, hnew', zeroValue, h2, newRow, happ]
theorem cutTr_get (n : Nat) : ∀ (t : Tr AV) (s j : Nat), (cutTr t n s).get j = if s ≤ j ∧ j < s + n then none else t.get j := by
  induction n with
  | zero => intro t s j; show t.get j = _; rw [if_neg (by omega)]
  | succ n ih =>
    intro t s j
    show (cutTr (t.set s none) n (Nat.succ s)).get j = _
    rw [ih, Tr.get_set]
    have e1 : Nat.succ s = s + 1 := rfl
    rw [e1]
    by_cases c : s + 1 ≤ j ∧ j < s + 1 + n
    · rw [if_pos c, if_pos (by omega)]
    · rw [if_neg c]
      by_cases c2 : s = j
      · rw [if_pos c2, if_pos (by omega)]
      · rw [if_neg c2, if_neg (by omega)]

/-- The new block and the new number. -/
def Env.both (E : Env) (p : Nat × Nat) (c : Nat) : Env := { E with m := E.m ++ [some p], caps := E.caps ++ [c] }
theorem Env.le_both (E : Env) (p : Nat × Nat) (c : Nat) : E.Le (E.both p c) := (E.le_push (some p)).trans ((E.push (some p)).le_cap c)
theorem both_n (hS : StRel X K w0 E st w) (p : Nat × Nat) (c : Nat) : (E.both p c).m[st.n]? = some (some p) := by rw [← hS.n_eq]; exact push_new E (some p)
theorem both_c (hS : StRel X K w0 E st w) (p : Nat × Nat) (c : Nat) : (E.both p c).caps[st.nc]? = some c := by rw [← hS.c_eq]; exact cap_new E c
theorem both_old (E : Env) (p : Nat × Nat) (c : Nat) {k : Nat} {q : Option (Nat × Nat)} (h : (E.both p c).m[k]? = some q) : (k < E.m.length ∧ E.m[k]? = some q) ∨ (k = E.m.length ∧ q = some p) := push_get E (some p) k q h
theorem both_keep (E : Env) (p : Nat × Nat) (c : Nat) {k : Nat} {q : Option (Nat × Nat)} (h : E.m[k]? = some q) : (E.both p c).m[k]? = some q := by
  show (E.push (some p)).m[k]? = _
  rw [push_old E (some p) (List.getElem?_eq_some_iff.1 h).1]; exact h

/-- A new one of some places: they are known, there is room for more. -/
theorem StRel.newGrown (hS : StRel X K w0 E st w) {cs : List AV} {xs : List Value} (hx : denL E cs = some xs) {c es : Nat} {rest : Array Value} {el : TypeId} (hroom : c * es ≤ xs.length + rest.size) (hin : xs.length ≤ c * es) (w1 : World) (hw : w1.heap = w.heap) (hS1 : StRel X K w0 E st w1) :
    StRel X K w0 (E.both (w.heap.size, 0) c) ((⟨st.n, Nat.succ st.nc, st.heap, st.live, st.x⟩ : St).blk ⟨lenL cs, puts cs 0 .nil, [], 0, st.n, Nat.succ st.nc, es⟩) (w1.alloc (.cells (xs.toArray ++ rest) el)) ∧
      HP E (E.both (w.heap.size, 0) c) st ((⟨st.n, Nat.succ st.nc, st.heap, st.live, st.x⟩ : St).blk ⟨lenL cs, puts cs 0 .nil, [], 0, st.n, Nat.succ st.nc, es⟩) := by
  have h1 := hS1.newCap c
  have hsz : w1.heap.size = w.heap.size := by rw [hw]
  have hE : (E.cap c).push (some (w.heap.size, 0)) = E.both (w.heap.size, 0) c := rfl
  have h2 := h1.newCells (b := ⟨lenL cs, puts cs 0 .nil, [], 0, st.n, Nat.succ st.nc, es⟩) (p := some (w.heap.size, 0)) (w' := w1.alloc (.cells (xs.toArray ++ rest) el)) rfl
    (.inr ⟨_, el, by rw [hsz], rfl, blkRel_list (denL_mono (E.le_both (w.heap.size, 0) c) _ hx) (fun i y hy => by
      have := (List.getElem?_eq_some_iff.1 hy).1
      rw [Array.getElem?_append_left (by simpa using this)]; simpa using hy) (fun i hi => by
      have hi : Nat.succ st.nc = i + 1 := hi
      have : i = st.nc := by omega
      subst this
      refine ⟨c, both_c hS _ _, ?_, hin⟩
      simp only [Array.size_append, List.size_toArray]; exact hroom)⟩)
  rw [hE] at h2
  refine ⟨h2, ?_⟩
  have h3 := (hp_cap E c st).trans (hp_blk h1 ⟨lenL cs, puts cs 0 .nil, [], 0, st.n, Nat.succ st.nc, es⟩ (some (w.heap.size, 0)))
  rw [hE] at h3
  exact h3
theorem cap_arith (n m c sz : Nat) (h : n + m ≤ c) : c * sz ≤ n * sz + m * sz + (c - (n + m)) * sz := by
  rw [← Nat.add_mul, ← Nat.add_mul]
  exact Nat.mul_le_mul_right _ (by omega)
theorem slice_u_den (hS : StRel X K w0 E st w) {p : Nat × Nat} {c len : Nat} (h : len ≤ c) : (AV.slice (some ⟨.r st.n, 0⟩) len (.u st.nc 0)).den (E.both p c) = some (.slice (some ⟨p.1, p.2, none⟩) len c) := by
  have h1 : aden (E.both p c) ⟨.r st.n, 0⟩ = some ⟨p.1, 0 + p.2, none⟩ := aden_r_of (both_n hS p c)
  have h2 : cden (E.both p c) (.u st.nc 0) = some c := by simp [cden, both_c hS p c]
  simp only [AV.den, h1, h2]
  rw [if_pos h, Nat.zero_add]
end
end Go.Sy
