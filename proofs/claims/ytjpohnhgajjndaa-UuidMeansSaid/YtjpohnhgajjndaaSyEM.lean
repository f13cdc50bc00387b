import Derived.Test.YtjpohnhgajjndaaSyEE
import Derived.Laws.StructEq
/-! Maps. -/
namespace Go.Sy
section
variable {X : Tabs} {K : Nat → Prop} {w0 : World} {E : Env} {st : St} {w : World} {Θ : Pred} {R : List Back} {tm : Tm} {k : Kt} {o : Oper}

theorem run_getO {P : Program} {r : Nat} {ob : Obj} (h : w.heap[r]? = some ob) (hn : ∀ a b c, ob ≠ .cells a b c) : (getObj r).run P w = .ok ob w := by
  simp only [getObj, Sem.run, h]
theorem run_getMap {P : Program} {r : Nat} {ms : Array MapEntry} {c : Nat} (h : w.heap[r]? = some (.map ms c)) : (getObj r).run P w = .ok (.map ms c) w := run_getO h (by intros; exact Obj.noConfusion)
theorem run_setMap {P : Program} {r : Nat} {ms : Array MapEntry} {c : Nat} (o : Obj) (h : w.heap[r]? = some (.map ms c)) : (setObj r o).run P w = .ok () (w.putObj r o) := by simp [setObj, Sem.run, h, World.putObj]
theorem mapOf_inv {r : Nat} {m : List (AV × AV × Nat) × Nat} (h : mapOf st r = some m) : st.x.objs.get r = some (.map m.1 m.2) := by
  obtain ⟨o, ho, h⟩ := obind_inv h
  cases o <;> cases h
  exact ho
theorem obj_at (hS : StRel X K w0 E st w) {r : Nat} {o : Ob} (h : st.x.objs.get r = some o) {id : Nat} (hm : E.m[r]? = some (some (id, 0))) : ∃ ob, w.heap[id]? = some ob ∧ ObRel X E o ob := by
  rcases (hS.objs r o h).2 with h1 | ⟨id', ob, h1, h2, h3⟩
  · rw [hm] at h1; cases h1
  · rw [hm] at h1; cases h1; exact ⟨ob, h2, h3⟩
theorem map_at (hS : StRel X K w0 E st w) {r : Nat} {es : List (AV × AV × Nat)} {c : Nat} (h : st.x.objs.get r = some (.map es c)) {id : Nat} (hm : E.m[r]? = some (some (id, 0))) : ∃ ms, w.heap[id]? = some (.map ms c) ∧ EntsRel E es ms.toList := by
  obtain ⟨ob, h1, h2⟩ := obj_at hS h hm
  cases ob <;> simp only [ObRel] at h2
  obtain ⟨rfl, h2⟩ := h2
  exact ⟨_, h1, h2⟩

theorem EntsRel.length : ∀ {l : List (AV × AV × Nat)} {r : List MapEntry}, EntsRel E l r → l.length = r.length
  | [], [], _ => rfl
  | _ :: _, _ :: _, ⟨_, h⟩ => by simp [EntsRel.length h]
  | [], _ :: _, h => h.elim
  | _ :: _, [], h => h.elim
theorem EntsRel.get : ∀ {l : List (AV × AV × Nat)} {r : List MapEntry}, EntsRel E l r → ∀ {i : Nat} {e : AV × AV × Nat}, l[i]? = some e → ∃ m, r[i]? = some m ∧ EntRel E e m
  | [], [], _, i, e, h => by simp at h
  | a :: l, b :: r, ⟨h1, h2⟩, i, e, h => by
    cases i with
    | zero => simp at h; subst h; exact ⟨b, rfl, h1⟩
    | succ i => simpa using EntsRel.get h2 (i := i) (by simpa using h)
  | [], _ :: _, h, _, _, _ => h.elim
  | _ :: _, [], h, _, _, _ => h.elim
theorem EntsRel.set : ∀ {l : List (AV × AV × Nat)} {r : List MapEntry}, EntsRel E l r → ∀ (i : Nat) {e : AV × AV × Nat} {m : MapEntry}, EntRel E e m → EntsRel E (l.set i e) (r.set i m)
  | [], [], _, _, _, _, _ => trivial
  | a :: l, b :: r, ⟨h1, h2⟩, i, e, m, h => by
    cases i with
    | zero => exact ⟨h, h2⟩
    | succ i => exact ⟨h1, EntsRel.set h2 i h⟩
  | [], _ :: _, h, _, _, _, _ => h.elim
  | _ :: _, [], h, _, _, _, _ => h.elim
theorem EntsRel.push : ∀ {l : List (AV × AV × Nat)} {r : List MapEntry}, EntsRel E l r → ∀ {e : AV × AV × Nat} {m : MapEntry}, EntRel E e m → EntsRel E (l ++ [e]) (r ++ [m])
  | [], [], _, _, _, h => ⟨h, trivial⟩
  | _ :: _, _ :: _, ⟨h1, h2⟩, _, _, h => ⟨h1, EntsRel.push h2 h⟩
  | [], _ :: _, h, _, _, _ => h.elim
  | _ :: _, [], h, _, _, _ => h.elim
theorem EntsRel.erase : ∀ {l : List (AV × AV × Nat)} {r : List MapEntry}, EntsRel E l r → ∀ (i : Nat), EntsRel E (l.eraseIdx i) (r.eraseIdx i)
  | [], [], _, _ => trivial
  | a :: l, b :: r, ⟨h1, h2⟩, i => by
    cases i with
    | zero => exact h2
    | succ i => exact ⟨h1, EntsRel.erase h2 i⟩
  | [], _ :: _, h, _ => h.elim
  | _ :: _, [], h, _ => h.elim

theorem bytesOf_beq {s t : List Nat} (hs : ∀ c ∈ s, c < 256) (ht : ∀ c ∈ t, c < 256) : (bytesOf s == bytesOf t) = leqL s t := by
  rw [beq_toListBytes, leqL_eq, bytesOf_toList, bytesOf_toList]
  by_cases e : s = t
  · subst e; simp
  · rw [decide_eq_false e, beq_eq_false_iff_ne]; exact fun h => e (map_u8_inj hs ht h)
theorem sameK_sound {kt : TypeDesc} {a b : AV} {r : Bool} (h : sameK kt a b = some r) {x y : Value} (hx : a.den E = some x) (hy : b.den E = some y) : Instr.sameNow kt x y = some r ∧ (r = true → ∀ n, Instr.sameBits n y x = true) := by
  unfold sameK at h
  split at h
  · split at h
    · rename_i j u k v
      obtain ⟨h1, h2⟩ := bif_some h
      have := kbeq_eq h1
      subst this
      cases h2
      obtain ⟨hu, rfl⟩ := den_int hx
      obtain ⟨hv, rfl⟩ := den_int hy
      have e : (sgn j u == sgn j v) = Nat.beq u v := by
        rw [beq_iff]
        by_cases e : u = v
        · subst e; simp
        · rw [decide_eq_false e]
          simpa using fun h => e (sgn_inj j hu hv h)
      refine ⟨by simp [Instr.sameNow, e], fun hr n => ?_⟩
      rw [beq_iff, decide_eq_true_eq] at hr
      subst hr
      cases n <;> simp [Instr.sameBits]
    · cases h
  · split at h
    · rename_i n s m t
      cases h
      obtain ⟨_, hs, rfl⟩ := den_str hx
      obtain ⟨_, ht, rfl⟩ := den_str hy
      refine ⟨by simp [Instr.sameNow, bytesOf_beq hs ht], fun hr n => ?_⟩
      rw [leqL_eq, decide_eq_true_eq] at hr
      subst hr
      have e : (bytesOf s == bytesOf s) = true := by rw [beq_toListBytes]; simp
      cases n <;> simp [Instr.sameBits, e]
    · cases h
  · split at h
    · rename_i c d
      cases h
      cases hx; cases hy
      refine ⟨by cases c <;> cases d <;> rfl, fun hr n => ?_⟩
      rw [bbeq_eq, decide_eq_true_eq] at hr
      subst hr
      cases n <;> simp [Instr.sameBits]
    · cases h
  · cases h
/-- The place of a key. -/
theorem findM_sound {kt : TypeDesc} {kv : AV} {key : Value} (hk : kv.den E = some key) : ∀ {es : List (AV × AV × Nat)} {ms : List MapEntry} {i : Nat} {r : Option (Nat × AV × Nat)}, EntsRel E es ms → findM kt kv es i = some r →
    ∃ r', Instr.findNow kt key ms i = some r' ∧ ((r = none ∧ r' = none) ∨ ∃ j e m, r = some (i + j, e.2) ∧ es[j]? = some e ∧ ms[j]? = some m ∧ EntRel E e m ∧ r' = some (i + j, m.val) ∧ ∀ n, Instr.sameBits n m.key key = true)
  | [], [], i, r, _, h => by cases h; exact ⟨none, rfl, .inl ⟨rfl, rfl⟩⟩
  | e :: es, m :: ms, i, r, ⟨h1, h2⟩, h => by
    change obind (sameK kt kv e.1) (fun b => Bool.rec (findM kt kv es (Nat.succ i)) (some (some (i, e.2))) b) = some r at h
    obtain ⟨b, hb, h⟩ := obind_inv h
    obtain ⟨h3, h4⟩ := sameK_sound hb hk h1.1
    cases b with
    | true =>
      cases h
      refine ⟨some (i, m.val), by simp [Instr.findNow, h3], .inr ⟨0, e, m, rfl, rfl, rfl, h1, rfl, h4 rfl⟩⟩
    | false =>
      obtain ⟨r', g1, g2⟩ := findM_sound hk h2 h
      refine ⟨r', by simp [Instr.findNow, h3, g1], ?_⟩
      rcases g2 with g2 | ⟨j, e', m', q1, q2, q3, q4, q5, q6⟩
      · exact .inl g2
      · exact .inr ⟨j + 1, e', m', by rw [q1]; simp; omega, by simpa using q2, by simpa using q3, q4, by rw [q5]; simp; omega, q6⟩
  | [], _ :: _, _, _, h, _ => h.elim
  | _ :: _, [], _, _, h, _ => h.elim

theorem keyD_inv {t : TypeId} {p : TypeDesc × TypeId} (hc : CxOK X K w0) (h : keyD X.cx.und t = some p) : ∃ kt, X.P.underlying t = some (.map kt p.2) ∧ X.P.underlying kt = some p.1 ∧ keyKind p.1 = true := by
  obtain ⟨d, hd, h⟩ := obind_inv h
  obtain ⟨q, hq, h⟩ := obind_inv h
  obtain ⟨kd, hkd, h⟩ := obind_inv h
  obtain ⟨h1, h2⟩ := bif_some h
  cases h2
  cases d <;> cases hq
  exact ⟨_, hc.und t _ hd, hc.und _ _ hkd, h1⟩
theorem run_checkKey {P : Program} {kt : TypeId} {d : TypeDesc} (hu : P.underlying kt = some d) (hk : keyKind d = true) (b : Bool) (key : Value) (w : World) : (Instr.checkKey b 10000 kt key).run P w = .ok () w := by
  have : Instr.checkKey b (9999 + 1) kt key = Instr.checkKey b 10000 kt key := rfl
  rw [← this, Instr.checkKey]
  cases d <;> first | (cases hk; done) | simp [run_underlying hu]
theorem run_findKey {P : Program} {kt : TypeId} {d : TypeDesc} (hu : P.underlying kt = some d) {key : Value} {es : List MapEntry} {r : Option (Nat × Value)} (h : Instr.findNow d key es 0 = some r) (w : World) : (Instr.findKey kt key es).run P w = .ok r w := by
  simp [Instr.findKey, run_underlying hu, h]
theorem run_keyStays {P : Program} {old new : Value} (h : Instr.sameBits 10000 old new = true) (w : World) : (Instr.keyThatStays old new).run P w = .ok new w := by
  simp [Instr.keyThatStays, h]
end
end Go.Sy
