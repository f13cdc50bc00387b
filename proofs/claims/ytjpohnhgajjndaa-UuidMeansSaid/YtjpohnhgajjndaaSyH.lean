import Derived.Test.YtjpohnhgajjndaaSyO
import Derived.RangeFuncRecord
/-! Memory: what comes there later; objects; capacities. -/
namespace Go.Sy
section
variable {X : Tabs} {K : Nat → Prop} {w0 : World} {E : Env} {st : St} {w : World} {Θ : Pred} {R : List Back}

theorem withF_heap (st : St) (f : List T) : (st.withF f).heap = st.heap := by obtain ⟨n, nc, h, l, o, s, g, nz, na, no, lv⟩ := st; rfl
theorem withF_objs (st : St) (f : List T) : (st.withF f).x.objs = st.x.objs := by obtain ⟨n, nc, h, l, o, s, g, nz, na, no, lv⟩ := st; rfl
theorem withF_live (st : St) (f : List T) : (st.withF f).live = st.live := by obtain ⟨n, nc, h, l, o, s, g, nz, na, no, lv⟩ := st; rfl
theorem withF_facts (st : St) (f : List T) : (st.withF f).facts = f := by obtain ⟨n, nc, h, l, o, s, g, nz, na, no, lv⟩ := st; rfl
theorem withF_withF (st : St) (f g : List T) : (st.withF f).withF g = st.withF g := by obtain ⟨n, nc, h, l, o, s, g', nz, na, no, lv⟩ := st; rfl
theorem StRel.withF (hS : StRel X K w0 E st w) {f : List T} (hf : FOK E.va f) : StRel X K w0 E (st.withF f) w := by
  obtain ⟨n, nc, h, l, o, s, g, nz, na, no, lv⟩ := st
  exact ⟨hS.n_eq, hS.c_eq, hS.z_eq, hS.a_eq, hS.o_eq, hS.klt, hS.kept, hS.ids, hS.lt, hS.blks, hS.fams, hS.livelt, hS.lives, hS.objs, hS.oinj, hS.apart, hf, hS.famh, hS.liveh⟩
theorem hp_withF (E : Env) (st : St) (f : List T) : HP E E st (st.withF f) := fun k h => ⟨h, by rw [withF_heap], by rw [withF_objs], by rw [withF_live]⟩

/-- A number's capacity. -/
def Env.cap (E : Env) (c : Nat) : Env := { E with caps := E.caps ++ [c] }
theorem Env.le_cap (E : Env) (c : Nat) : E.Le (E.cap c) :=
  ⟨fun _ _ h => h, fun k p h => by show (E.caps ++ [c])[k]? = _; rw [List.getElem?_append_left (List.getElem?_eq_some_iff.1 h).1]; exact h, .refl _, fun _ _ h => h, fun k h => ⟨none, h, fun _ e => by cases e⟩⟩
theorem cap_new (E : Env) (c : Nat) : (E.cap c).caps[E.caps.length]? = some c := by show (E.caps ++ [c])[E.caps.length]? = _; simp
theorem StRel.newCap (hS : StRel X K w0 E st w) (c : Nat) : StRel X K w0 (E.cap c) ⟨st.n, Nat.succ st.nc, st.heap, st.live, st.x⟩ w := by
  have hle := E.le_cap c
  refine ⟨hS.n_eq, by simp [Env.cap, hS.c_eq], hS.z_eq, hS.a_eq, hS.o_eq, hS.klt, hS.kept, hS.ids, hS.lt, ?_, hS.fams, hS.livelt, hS.lives, ?_, hS.oinj, hS.apart, hS.facts, hS.famh, hS.liveh⟩
  · intro k b hk
    rcases hS.blks k b hk with h | ⟨id, sh, cs, el, fr, hm, hh, hr⟩
    · exact .inl ⟨h.1, h.2.1, fun i v hv => (h.2.2 i v hv).mono hle⟩
    · exact .inr ⟨id, sh, cs, el, fr, hm, hh, hr.mono hle⟩
  · intro k o hk
    obtain ⟨h1, h2⟩ := hS.objs k o hk
    exact ⟨h1, h2.imp id fun ⟨a, b, c, d, e⟩ => ⟨a, b, c, d, e.mono hle⟩⟩
theorem hp_cap (E : Env) (c : Nat) (st : St) : HP E (E.cap c) st ⟨st.n, Nat.succ st.nc, st.heap, st.live, st.x⟩ := fun _ h => ⟨h, rfl, rfl, rfl⟩

/-- An unknown capacity has at least so many places. -/
theorem knownU_ok (hS : StRel X K w0 E st w) {es i sub n c : Nat} {a : Option AAddr} (hc : E.caps[i]? = some c) (hn : n + sub ≤ c) : knownU es i sub n st a + sub ≤ c := by
  unfold knownU
  split
  · rename_i k off
    cases hb : st.heap.get k with
    | none => exact hn
    | some b =>
      show bif_ _ _ n + sub ≤ c
      cases hcond : (Nat.beq b.cv (Nat.succ i) && (Nat.beq b.es es && (Nat.beq off (Nat.mul sub es) && Nat.blt 0 es))) with
      | false => exact hn
      | true =>
        simp only [Bool.and_eq_true, beq_iff, blt_iff, decide_eq_true_eq] at hcond
        obtain ⟨h1, h2, h3, h4⟩ := hcond
        rcases hS.blks k b hb with h | ⟨id, sh, cs, el, fr, hm, hh, hr⟩
        · have := h.2.1; omega
        · obtain ⟨c', g1, g2, g3⟩ := hr.cap i h1
          rw [hc] at g1; cases g1
          rw [bif_true, natSub, natDiv]
          have h5 : b.sz / es ≤ c := by
            rw [← h2]
            refine Nat.div_le_of_le_mul ?_
            rw [Nat.mul_comm]; exact g3
          omega
  · exact hn

/-! ### What comes there -/
def Env.set (E : Env) (k : Nat) (p : Nat × Nat) : Env := { E with m := E.m.set k (some p) }
theorem Env.le_set {E : Env} {k id : Nat} (hk : E.m[k]? = some none) : E.Le (E.set k (id, 0)) := by
  have hlt := (List.getElem?_eq_some_iff.1 hk).1
  refine ⟨fun j p h => ?_, fun _ _ h => h, .refl _, fun _ _ h => h, fun j h => ?_⟩
  · show (E.m.set k _)[j]? = _
    rw [List.getElem?_set_ne (fun e => by subst e; rw [hk] at h; cases h)]; exact h
  · by_cases e : k = j
    · subst e; exact ⟨some (id, 0), by show (E.m.set k _)[k]? = _; simp [hlt], fun p e => by cases e; rfl⟩
    · exact ⟨none, by show (E.m.set k _)[j]? = _; rw [List.getElem?_set_ne e]; exact h, fun _ e => by cases e⟩
theorem set_same {E : Env} {k : Nat} {p : Nat × Nat} (hk : k < E.m.length) : (E.set k p).m[k]? = some (some p) := by show (E.m.set k _)[k]? = _; simp [hk]
theorem set_other {E : Env} {k j : Nat} {p : Nat × Nat} (h : j ≠ k) : (E.set k p).m[j]? = E.m[j]? := by show (E.m.set k _)[j]? = _; rw [List.getElem?_set_ne (fun e => h e.symm)]
/-- It comes to be. -/
theorem StRel.fill (hS : StRel X K w0 E st w) {k : Nat} (hk : E.m[k]? = some none) (ob : Obj)
    (hb : ∀ b, st.heap.get k = some b → b.fam = k ∧ ∃ ys el, ob = .cells ys el (0, 0) ∧ BlkRel (E.set k (w.heap.size, 0)) b 0 ys (0, 0)) (ho : ∀ o, st.x.objs.get k = some o → ObRel X (E.set k (w.heap.size, 0)) o ob) :
    StRel X K w0 (E.set k (w.heap.size, 0)) st (w.alloc ob) := by
  have hlt := (List.getElem?_eq_some_iff.1 hk).1
  have hle : E.Le (E.set k (w.heap.size, 0)) := E.le_set hk
  have hnew : (w.alloc ob).heap[w.heap.size]? = some ob := World.alloc_heap_new _ _
  have hold : ∀ i, i < w.heap.size → (w.alloc ob).heap[i]? = w.heap[i]? := fun i hi => Go.RowKit.Below.heap_alloc _ _ _ hi
  have hsz : (w.alloc ob).heap.size = w.heap.size + 1 := by simp
  have getm : ∀ (j : Nat) (p : Nat × Nat), (E.set k (w.heap.size, 0)).m[j]? = some (some p) → (j = k ∧ p = (w.heap.size, 0)) ∨ (j ≠ k ∧ E.m[j]? = some (some p)) := by
    intro j p hp
    by_cases e : j = k
    · subst e; rw [set_same hlt] at hp; cases hp; exact .inl ⟨rfl, rfl⟩
    · rw [set_other e] at hp; exact .inr ⟨e, hp⟩
  have nok : ∀ (j : Nat) (p : Nat × Nat), E.m[j]? = some (some p) → j ≠ k := fun j p hp e => by subst e; rw [hk] at hp; cases hp
  refine ⟨by simp [Env.set, hS.n_eq], hS.c_eq, hS.z_eq, hS.a_eq, hS.o_eq, hS.klt, hS.kept.alloc hS.klt' _, ?_, hS.lt, ?_, ?_, hS.livelt, hS.lives, ?_, ?_, hS.apart, hS.facts, ?_, ?_⟩
  · intro j p hp
    rcases getm j p hp with ⟨_, rfl⟩ | ⟨_, h⟩
    · exact ⟨fun hK => absurd (hS.klt' _ hK) (Nat.lt_irrefl _), by rw [hsz]; exact Nat.lt_succ_self _⟩
    · have := hS.ids j p h; exact ⟨this.1, by rw [hsz]; omega⟩
  · intro j b hj
    by_cases e : j = k
    · subst e
      obtain ⟨h1, ys, el, rfl, h2⟩ := hb b hj
      exact .inr ⟨w.heap.size, 0, ys, el, (0, 0), set_same hlt, hnew, h2⟩
    · rcases hS.blks j b hj with h | ⟨id, sh, cs, el, fr, hm, hh, hr⟩
      · exact .inl ⟨by rw [set_other e]; exact h.1, h.2.1, fun i v hv => (h.2.2 i v hv).mono hle⟩
      · exact .inr ⟨id, sh, cs, el, fr, by rw [set_other e]; exact hm, by rw [hold _ (hS.ids j _ hm).2]; exact hh, hr.mono hle⟩
  · intro k1 k2 b1 b2 id1 sh1 id2 sh2 h1 h2 m1 m2 hf
    rcases getm k1 _ m1 with ⟨rfl, e1⟩ | ⟨n1, m1⟩ <;> rcases getm k2 _ m2 with ⟨e2, e3⟩ | ⟨n2, m2⟩
    · subst e2; rw [h1] at h2; cases h2; exact absurd rfl hf
    · cases e1
      have := (hS.ids k2 _ m2).2
      simp only at this; omega
    · cases e3
      have := (hS.ids k1 _ m1).2
      simp only at this; omega
    · exact hS.fams k1 k2 b1 b2 id1 sh1 id2 sh2 h1 h2 m1 m2 hf
  · intro j o hj
    obtain ⟨h1, h2⟩ := hS.objs j o hj
    refine ⟨h1, ?_⟩
    by_cases e : j = k
    · subst e
      exact .inr ⟨w.heap.size, ob, set_same hlt, hnew, ho o hj⟩
    · rcases h2 with h2 | ⟨id, ob', g1, g2, g3⟩
      · exact .inl (by rw [set_other e]; exact h2)
      · exact .inr ⟨id, ob', by rw [set_other e]; exact g1, by rw [hold _ (hS.ids j _ g1).2]; exact g2, g3.mono hle⟩
  · intro k1 k2 o1 o2 p h1 h2 m1 m2
    rcases getm k1 _ m1 with ⟨rfl, e1⟩ | ⟨n1, m1⟩ <;> rcases getm k2 _ m2 with ⟨e2, e3⟩ | ⟨n2, m2⟩
    · exact e2.symm
    · subst e1
      have := (hS.ids k2 _ m2).2
      simp only at this; omega
    · subst e3
      have := (hS.ids k1 _ m1).2
      simp only at this; omega
    · exact hS.oinj k1 k2 o1 o2 p h1 h2 m1 m2
  · intro j b p hj hp
    rcases getm j p hp with ⟨rfl, rfl⟩ | ⟨n1, m1⟩
    · rw [(hb b hj).1]; exact ⟨_, hp⟩
    · obtain ⟨q, hq⟩ := hS.famh j b p hj m1
      exact ⟨q, hle.m _ _ hq⟩
  · intro f l hl
    obtain ⟨⟨q, hq⟩, h2⟩ := hS.liveh f l hl
    exact ⟨⟨q, hle.m _ _ hq⟩, fun j hj => let ⟨q, hq⟩ := h2 j hj; ⟨q, hle.m _ _ hq⟩⟩

/-! ### Objects -/
noncomputable def St.obj (st : St) (o : Ob) : St := ⟨Nat.succ st.n, st.nc, st.heap, st.live, ⟨st.x.objs.set st.n (some o), st.x.sh, st.x.facts, st.x.nz, st.x.na, st.x.no, st.x.lv⟩⟩
noncomputable def St.setO (st : St) (r : Nat) (o : Ob) : St := ⟨st.n, st.nc, st.heap, st.live, ⟨st.x.objs.set r (some o), st.x.sh, st.x.facts, st.x.nz, st.x.na, st.x.no, st.x.lv⟩⟩
theorem newO_eq (st : St) (o : Ob) (k : Nat → St → VC) : newO st o k = k st.n (st.obj o) := by
  obtain ⟨n, nc, h, l, ob, s, g, nz, na, no, lv⟩ := st
  show ob.setK n (some o) _ = _
  rw [Tr.setK_eq, natK_eq]; rfl
theorem withO_eq (st : St) (r : Nat) (o : Ob) (k : St → VC) : withO st r o k = k (st.setO r o) := by
  obtain ⟨n, nc, h, l, ob, s, g, nz, na, no, lv⟩ := st
  show ob.setK r (some o) _ = _
  rw [Tr.setK_eq]; rfl
theorem StRel.newObj (hS : StRel X K w0 E st w) (o : Ob) : StRel X K w0 (E.push none) (st.obj o) w := by
  have hle := E.le_push none
  have hkeep : ∀ (k : Nat) (q : Option (Nat × Nat)), E.m[k]? = some q → (E.push none).m[k]? = some q := fun k q hq => by rw [push_old E none (List.getElem?_eq_some_iff.1 hq).1]; exact hq
  have hold : ∀ (k : Nat) (q : Nat × Nat), (E.push none).m[k]? = some (some q) → E.m[k]? = some (some q) := by
    intro k q hq
    rcases push_get E none k _ hq with ⟨_, h⟩ | ⟨_, h⟩
    · exact h
    · cases h
  have oget : ∀ j oj, (st.x.objs.set st.n (some o)).get j = some oj → (j = st.n ∧ oj = o) ∨ (j < st.n ∧ st.x.objs.get j = some oj) := by
    intro j oj hj
    rw [Tr.get_set] at hj
    by_cases e : st.n = j
    · rw [if_pos e] at hj; cases hj; exact .inl ⟨e.symm, rfl⟩
    · rw [if_neg e] at hj; exact .inr ⟨(hS.objs j oj hj).1, hj⟩
  refine ⟨by simp [Env.push, St.obj, hS.n_eq], hS.c_eq, hS.z_eq, hS.a_eq, hS.o_eq, hS.klt, hS.kept, fun k q hq => hS.ids k q (hold k q hq), fun k b hb => ?_, fun k b hb => ?_, fun k1 k2 b1 b2 id1 sh1 id2 sh2 h1 h2 m1 m2 => hS.fams k1 k2 b1 b2 id1 sh1 id2 sh2 h1 h2 (hold _ _ m1) (hold _ _ m2),
    fun f l hl => Nat.lt_succ_of_lt (hS.livelt f l hl), hS.lives, fun j oj hj => ?_, fun k1 k2 o1 o2 p h1 h2 m1 m2 => ?_, fun k oj hk => ?_, hS.facts, fun j b q hj hq => ?_, fun f l hl => ?_⟩
  · have := hS.lt k b hb; exact ⟨Nat.lt_succ_of_lt this.1, Nat.lt_succ_of_lt this.2⟩
  · rcases hS.blks k b hb with h | ⟨id, sh, cs, el, fr, hm, hh, hr⟩
    · exact .inl ⟨hkeep _ _ h.1, h.2.1, fun i v hv => (h.2.2 i v hv).mono hle⟩
    · exact .inr ⟨id, sh, cs, el, fr, hkeep _ _ hm, hh, hr.mono hle⟩
  · rcases oget j oj hj with ⟨rfl, rfl⟩ | ⟨hlt, h⟩
    · exact ⟨Nat.lt_succ_self _, .inl (by rw [← hS.n_eq]; exact push_new E none)⟩
    · refine ⟨Nat.lt_succ_of_lt hlt, ?_⟩
      rcases (hS.objs j oj h).2 with h2 | ⟨id, ob, g1, g2, g3⟩
      · exact .inl (hkeep _ _ h2)
      · exact .inr ⟨id, ob, hkeep _ _ g1, g2, g3.mono hle⟩
  · rcases oget k1 o1 h1 with ⟨rfl, _⟩ | ⟨l1, h1⟩
    · have := push_new E none; rw [hS.n_eq] at this; rw [this] at m1; cases m1
    · rcases oget k2 o2 h2 with ⟨rfl, _⟩ | ⟨l2, h2⟩
      · have := push_new E none; rw [hS.n_eq] at this; rw [this] at m2; cases m2
      · exact hS.oinj k1 k2 o1 o2 p h1 h2 (hold _ _ m1) (hold _ _ m2)
  · rcases oget k oj hk with ⟨rfl, _⟩ | ⟨_, h⟩
    · show st.heap.get st.n = none
      cases hb : st.heap.get st.n with
      | none => rfl
      | some b => exact absurd (hS.lt _ b hb).1 (Nat.lt_irrefl _)
    · exact hS.apart k oj h
  · obtain ⟨q', hq'⟩ := hS.famh j b q hj (hold _ _ hq)
    exact ⟨q', hkeep _ _ hq'⟩
  · obtain ⟨⟨q, hq⟩, h2⟩ := hS.liveh f l hl
    exact ⟨⟨q, hkeep _ _ hq⟩, fun j hj => let ⟨q, hq⟩ := h2 j hj; ⟨q, hkeep _ _ hq⟩⟩
theorem hp_obj (hS : StRel X K w0 E st w) (o : Ob) : HP E (E.push none) st (st.obj o) :=
  hp_push E none hS.n_eq (fun _ _ => rfl) (fun k hk => by show (st.x.objs.set st.n (some o)).get k = _; rw [Tr.get_set_other _ _ (by omega)]) rfl
/-- A new one, and it is there. -/
theorem StRel.newObjAt (hS : StRel X K w0 E st w) (o : Ob) (ob : Obj) (ho : ObRel X ((E.push none).set st.n (w.heap.size, 0)) o ob) :
    StRel X K w0 ((E.push none).set st.n (w.heap.size, 0)) (st.obj o) (w.alloc ob) ∧ HP E ((E.push none).set st.n (w.heap.size, 0)) st (st.obj o) ∧ E.Le ((E.push none).set st.n (w.heap.size, 0)) ∧ ((E.push none).set st.n (w.heap.size, 0)).m[st.n]? = some (some (w.heap.size, 0)) := by
  have hn : (E.push none).m[st.n]? = some none := by rw [← hS.n_eq]; exact push_new E none
  have hlt := (List.getElem?_eq_some_iff.1 hn).1
  have hh : st.heap.get st.n = none := by
    cases hb : st.heap.get st.n with
    | none => rfl
    | some b => exact absurd (hS.lt _ b hb).1 (Nat.lt_irrefl _)
  refine ⟨(hS.newObj o).fill hn ob (fun b hb => ?_) (fun o' ho' => ?_), fun k hk => ?_, (E.le_push none).trans (Env.le_set hn), set_same hlt⟩
  · have : st.heap.get st.n = some b := hb
    rw [hh] at this; cases this
  · have : (st.x.objs.set st.n (some o)).get st.n = some o' := ho'
    rw [Tr.get_set_same] at this; cases this; exact ho
  · have h1 := (List.getElem?_eq_some_iff.1 hk).1
    obtain ⟨a, b, c, d⟩ := hp_obj hS o k hk
    exact ⟨by rw [set_other (by rw [hS.n_eq] at h1; omega)]; exact a, b, c, d⟩

/-- An object changes. -/
theorem StRel.putObj (hS : StRel X K w0 E st w) {r id : Nat} {o o' : Ob} {ob ob' : Obj} (hr : st.x.objs.get r = some o) (hm : E.m[r]? = some (some (id, 0))) (hh : w.heap[id]? = some ob) (hob : ObRel X E o ob) (ho : ObRel X E o' ob') :
    StRel X K w0 E (st.setO r o') (w.putObj id ob') ∧ HP E E st (st.setO r o') := by
  have hid := hS.ids r _ hm
  have oget : ∀ j oj, (st.x.objs.set r (some o')).get j = some oj → (j = r ∧ oj = o') ∨ (j ≠ r ∧ st.x.objs.get j = some oj) := by
    intro j oj hj
    rw [Tr.get_set] at hj
    by_cases e : r = j
    · rw [if_pos e] at hj; cases hj; exact .inl ⟨e.symm, rfl⟩
    · rw [if_neg e] at hj; exact .inr ⟨fun h => e h.symm, hj⟩
  have ex : ∀ j oj, (st.x.objs.set r (some o')).get j = some oj → ∃ q, st.x.objs.get j = some q := by
    intro j oj hj
    rcases oget j oj hj with ⟨rfl, _⟩ | ⟨_, h⟩
    · exact ⟨_, hr⟩
    · exact ⟨_, h⟩
  refine ⟨⟨hS.n_eq, hS.c_eq, hS.z_eq, hS.a_eq, hS.o_eq, hS.klt, ?_, fun k q hq => by rw [World.putObj_size]; exact hS.ids k q hq, hS.lt, fun k b hb => ?_, hS.fams, hS.livelt, hS.lives, fun j oj hj => ?_, fun k1 k2 o1 o2 p h1 h2 m1 m2 => ?_, fun k oj hk => ?_, hS.facts, hS.famh, hS.liveh⟩, fun k hk => ⟨hk, rfl, ?_, rfl⟩⟩
  · exact hS.kept.trans ⟨rfl, rfl, rfl, by rw [World.putObj_size]; exact Nat.le_refl _, fun k hk => World.putObj_heap_other (fun e => hid.1 (e ▸ hk))⟩
  · rcases hS.blks k b hb with h | ⟨id2, sh, cs, el, fr, hm2, hh2, hr2⟩
    · exact .inl h
    · refine .inr ⟨id2, sh, cs, el, fr, hm2, ?_, hr2⟩
      rw [World.putObj_heap_other]; exact hh2
      rintro rfl
      rw [hh] at hh2; cases hh2
      exact hob.notCells
  · rcases oget j oj hj with ⟨rfl, rfl⟩ | ⟨hne, h⟩
    · exact ⟨(hS.objs j o hr).1, .inr ⟨id, ob', hm, World.putObj_heap_same hid.2, ho⟩⟩
    · obtain ⟨h1, h2⟩ := hS.objs j oj h
      refine ⟨h1, h2.imp (fun h => h) fun ⟨id2, ob2, g1, g2, g3⟩ => ⟨id2, ob2, g1, ?_, g3⟩⟩
      rw [World.putObj_heap_other]; exact g2
      rintro rfl
      exact hne (hS.oinj j r oj o _ h hr g1 hm)
  · obtain ⟨q1, e1⟩ := ex k1 o1 h1
    obtain ⟨q2, e2⟩ := ex k2 o2 h2
    exact hS.oinj k1 k2 q1 q2 p e1 e2 m1 m2
  · obtain ⟨q, e⟩ := ex k oj hk
    exact hS.apart k q e
  · show (st.x.objs.set r (some o')).get k = _
    rw [Tr.get_set_other]
    rintro rfl
    rw [hm] at hk; cases hk

theorem StRel.drew (hS : StRel X K w0 E st w) : StRel X K w0 E st w.drew :=
  ⟨hS.n_eq, hS.c_eq, hS.z_eq, hS.a_eq, hS.o_eq, hS.klt, ⟨hS.kept.os, hS.kept.tape, hS.kept.output, hS.kept.size, hS.kept.block⟩, hS.ids, hS.lt, hS.blks, hS.fams, hS.livelt, hS.lives, hS.objs, hS.oinj, hS.apart, hS.facts, hS.famh, hS.liveh⟩
theorem StRel.drawn (hS : StRel X K w0 E st w) (n : Nat) : StRel X K w0 E st { w with drawn := n } :=
  ⟨hS.n_eq, hS.c_eq, hS.z_eq, hS.a_eq, hS.o_eq, hS.klt, ⟨hS.kept.os, hS.kept.tape, hS.kept.output, hS.kept.size, hS.kept.block⟩, hS.ids, hS.lt, hS.blks, hS.fams, hS.livelt, hS.lives, hS.objs, hS.oinj, hS.apart, hS.facts, hS.famh, hS.liveh⟩
end
end Go.Sy
