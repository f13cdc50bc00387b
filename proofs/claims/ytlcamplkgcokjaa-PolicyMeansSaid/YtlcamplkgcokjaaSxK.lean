import Derived.Test.YtlcamplkgcokjaaSxM
/-! Whole numbers that are not known: by cases. -/
namespace Go.Sx
open Go.RowKit (Below)

abbrev Iv := Tr (IntKind × (Int × Int))
noncomputable def concV (iv : Iv) : AV → AV
  | .opq i => Option.rec (.opq i) (fun p => bif_ (ieq p.2.1 p.2.2) (.int p.1 p.2.1) (.opq i)) (iv.get i)
  | v => v
noncomputable def concL (iv : Iv) (l : List AV) : List AV := List.rec (motive := fun _ => List AV) [] (fun x _ ih => concV iv x :: ih) l
noncomputable def concA (iv : Iv) : AV → AV
  | .agg l => .agg (concL iv l)
  | v => concV iv v
noncomputable def concs (iv : Iv) (l : List AV) : List AV := List.rec (motive := fun _ => List AV) [] (fun x _ ih => concA iv x :: ih) l

structure IvOK (σ : Nat → Option Value) (iv : Iv) : Prop where
  iv : ∀ i k lo hi, iv.get i = some (k, (lo, hi)) → ∃ n, σ i = some (.int k n) ∧ lo ≤ n ∧ n ≤ hi ∧ (Lit.int k n).wf = true
def OrdOK (σ : Nat → Option Value) (od : Tr Nat) : Prop :=
  ∀ i j o, j < 64 → od.get (i * 64 + j) = some o → ∀ k n k' m, σ i = some (.int k n) → σ j = some (.int k' m) → (o = 0 ∧ n < m) ∨ (o = 1 ∧ n = m) ∨ (2 ≤ o ∧ m < n)

section
variable {P : Program} {w0 : World} {σ : Nat → Option Value} {E : Env} {iv : Iv}
theorem concV_den (h : IvOK σ iv) {v : AV} {x : Value} (hx : v.den σ E = some x) : (concV iv v).den σ E = some x := by
  unfold concV
  split
  · rename_i i
    cases hi : iv.get i with
    | none => exact hx
    | some p =>
      obtain ⟨k, lo, hi'⟩ := p
      show (bif_ (ieq lo hi') (AV.int k lo) (.opq i)).den σ E = some x
      cases hb : ieq lo hi' with
      | false => exact hx
      | true =>
        obtain ⟨n, h1, h2, h3, _⟩ := h.iv i k lo hi' hi
        have e : lo = hi' := by simpa [ieq_eq] using hb
        subst e
        have en : n = lo := by omega
        subst en
        have : σ i = some x := by simpa [AV.den] using hx
        rw [h1] at this
        show some (Value.int k n) = some x
        exact this
  · exact hx
theorem concL_den (h : IvOK σ iv) : ∀ {l : List AV} {xs : List Value}, denL σ E l = some xs → denL σ E (concL iv l) = some xs
  | [], xs, hx => hx
  | v :: l, xs, hx => by
    obtain ⟨a, b, h1, h2, rfl⟩ := denL_cons.1 hx
    exact denL_cons.2 ⟨a, b, concV_den h h1, concL_den h h2, rfl⟩
theorem concA_den (h : IvOK σ iv) {v : AV} {x : Value} (hx : v.den σ E = some x) : (concA iv v).den σ E = some x := by
  unfold concA
  split
  · obtain ⟨xs, h1, rfl⟩ := den_aggV hx
    simp [AV.den, concL_den h h1]
  · exact concV_den h hx
theorem concs_den (h : IvOK σ iv) : ∀ {l : List AV} {xs : List Value}, denL σ E l = some xs → denL σ E (concs iv l) = some xs
  | [], xs, hx => hx
  | v :: l, xs, hx => by
    obtain ⟨a, b, h1, h2, rfl⟩ := denL_cons.1 hx
    exact denL_cons.2 ⟨a, b, concA_den h h1, concs_den h h2, rfl⟩

theorem StRel.upon {B : Nat} {st : St} {w w' : World} (h : StRel σ B w0 E st w) (hb : Below w.heap.size w w') : StRel σ B w0 E st w' := by
  have hsz : B ≤ w.heap.size := Nat.le_trans h.base h.below.size
  refine ⟨h.n_eq, h.c_eq, h.base, h.below.trans (hb.mono hsz), fun k p hk => ?_, h.lt, fun k b hk => ?_, h.fams, h.livelt, h.lives⟩
  · have := h.ids k p hk
    exact ⟨this.1, Nat.lt_of_lt_of_le this.2 hb.size⟩
  · obtain ⟨id, sh, cs, el, fr, h1, h2, h3⟩ := h.blks k b hk
    exact ⟨id, sh, cs, el, fr, h1, by rw [hb.block id (h.ids k _ h1).2]; exact h2, h3⟩

/-- The tables, the call of function K (no arguments; it returns true) taken as known. -/
noncomputable def extK (K : Nat) (f : FuncId) (args : List AV) : Option AV := bif_ (Nat.beq f K && isNilL args) (some (.bool true)) none
where
  isNilL : List AV → Bool
    | [] => true
    | _ => false
noncomputable def cxK (P : Program) (K : Nat) (iv : Iv) (od : Tr Nat) : Cx := { cxOf P with iv := iv, ord := od, fns := (cxOf P).fns.set K none, ext := extK K }

theorem cxK_ok {od : Tr Nat} {K : Nat} (hsig : ∀ i x, σ i = some x → x.oneCell' = true) (hb : ∀ i b, σ i ≠ some (.bool b)) (hi : IvOK σ iv) (ho : OrdOK σ od) : CxOK P (cxK P K iv od) σ w0.heap.size w0 := by
  have h := cxOf_ok P w0
  exact ⟨hi.iv, ho, h.eqm, h.und, h.size, fun t z hz => by
    obtain ⟨i, v, h1, h2, h3, h4, h5, _⟩ := h.zero t z hz
    refine ⟨i, v, h1, h2, h3, h4, h5, fun E => ?_⟩
    obtain ⟨i', hi', hz⟩ := trS_some hz
    obtain ⟨v', hv', hz⟩ := obind_inv hz
    unfold zeroFor at hz
    obtain ⟨_, hz2⟩ := bif_some hz
    have := info_of (P := P) (t := t) (by simpa using hi')
    rw [h1] at this
    cases this
    rw [h2] at hv'
    cases hv'
    exact denL_ofCells hz2, h.fld, fun g t hg => by simp [cxK, cxOf] at hg, hsig, hb⟩
theorem cxK_fns (hm : P.follows .mixedOrders = true) {od : Tr Nat} {K : Nat} {fk : Func} (hk : P.funcs[K]? = some fk) (hkn : (fk.name == "runtime.NumGoroutine") = false) (hkb : fk.body.isSome = true)
    (hcall : ∀ w, Calls P K #[] w fun e w' => e = .returned (.bool true) ∧ Below w.heap.size w w') : FnsOK P (cxK P K iv od) σ w0.heap.size w0 := by
  have h := cxOf_fns hm w0
  refine ⟨fun f fi hf => ?_, fun f args v hf hv E st w xs hS hargs => ?_, hm⟩
  · have : ((cxOf P).fns.set K none).get f = some fi := hf
    rw [Tr.get_set] at this
    by_cases e : K = f
    · rw [if_pos e] at this; cases this
    · rw [if_neg e] at this; exact h.fns f fi this
  · obtain ⟨hc, hv⟩ := bif_some hv
    cases hv
    simp only [Bool.and_eq_true, beq_iff, decide_eq_true_eq] at hc
    obtain ⟨rfl, hn⟩ := hc
    have hnil : args = [] := by
      unfold extK.isNilL at hn
      split at hn
      · rfl
      · cases hn
    subst hnil
    cases hargs
    exact ⟨fk, hk, hkn, .bool true, rfl, .inl ⟨hkb, (hcall w).mono fun e w' ⟨h1, h2⟩ => ⟨hS.upon h2, h1⟩⟩⟩

/-- What is shown of arguments whose whole numbers lie so, and stand so to one another. -/
def Good (P : Program) (f : Nat) (args : List AV) (iv : Iv) (od : Tr Nat) : Prop :=
  ∀ (σ : Nat → Option Value) (w0 : World) (xs : List Value), (∀ i x, σ i = some x → x.oneCell' = true) → (∀ i b, σ i ≠ some (.bool b)) → IvOK σ iv → OrdOK σ od → denL σ ⟨[], []⟩ args = some xs →
    Calls P f xs.toArray w0 fun e w' => e = .returned (.bool true) ∧ Below w0.heap.size w0 w'

inductive Split where
  | leaf
  | cut (v : Nat) (c : Int) (l r : Split)
  | ord (i j : Nat) (a b c : Split)

noncomputable def setO (od : Tr Nat) (i j o : Nat) : Tr Nat := (od.set (i * 64 + j) (some o)).set (j * 64 + i) (some (2 - o))

noncomputable def cutOK (a b c : Int) : Bool := ilt a c && ile c b
noncomputable def withI (cx : Cx) (iv : Iv) (od : Tr Nat) : Cx := { eqm := cx.eqm, und := cx.und, size := cx.size, zero := cx.zero, fns := cx.fns, glob := cx.glob, ext := cx.ext, iv := iv, ord := od }
noncomputable def check (cx : Cx) (n f : Nat) (args : List AV) (t : Split) : Iv → Tr Nat → Bool :=
  Split.rec (motive := fun _ => Iv → Tr Nat → Bool)
    (fun iv od => isTrue (run (withI cx iv od) n (.call f (concs iv args)) st0))
    (fun v c _ _ l r iv od => Option.rec false (fun p => cutOK p.2.1 p.2.2 c && ((iv.setK v (some (p.1, (p.2.1, isub c 1))) fun iv => l iv od) && (iv.setK v (some (p.1, (c, p.2.2))) fun iv => r iv od))) (iv.get v))
    (fun i j _ _ _ a b c iv od => (Nat.blt i 64 && Nat.blt j 64) && ((od.setK (i * 64 + j) (some 0) fun od => od.setK (j * 64 + i) (some 2) fun od => a iv od) && ((od.setK (i * 64 + j) (some 1) fun od => od.setK (j * 64 + i) (some 1) fun od => b iv od) && (od.setK (i * 64 + j) (some 2) fun od => od.setK (j * 64 + i) (some 0) fun od => c iv od)))) t
/-- The same, the tables written out. -/
noncomputable def checkP (P : Program) (K n f : Nat) (args : List AV) (t : Split) (iv : Iv) (od : Tr Nat) : Bool :=
  trK (undOf P.types) P.types.toList 0 .nil fun u => trK (fun i => some i.size) P.types.toList 0 .nil fun s => trK zeroOf P.types.toList 0 .nil fun z => trK fnOf P.funcs.toList 0 .nil fun g => trK (eqmOf P) (List.range P.types.size) 0 .nil fun q =>
    g.setK K none fun g => check { iv := .nil, ord := .nil, eqm := q, und := u, size := s, zero := z, fns := g, glob := .nil, ext := extK K } n f args t iv od
theorem checkP_eq (P : Program) (K n f : Nat) (args : List AV) (t : Split) (iv : Iv) (od : Tr Nat) : checkP P K n f args t iv od = check (cxK P K .nil .nil) n f args t iv od := by
  simp only [checkP, trK_eq, Tr.setK_eq]
  rfl

theorem IvOK.set {σ : Nat → Option Value} {iv : Iv} (h : IvOK σ iv) {v : Nat} {k : IntKind} {lo hi : Int} (hn : ∃ n, σ v = some (.int k n) ∧ lo ≤ n ∧ n ≤ hi ∧ (Lit.int k n).wf = true) : IvOK σ (iv.set v (some (k, (lo, hi)))) := by
  refine ⟨fun i k' lo' hi' hg => ?_⟩
  rw [Tr.get_set] at hg
  by_cases e : v = i
  · subst e
    rw [if_pos rfl] at hg
    cases hg
    exact hn
  · rw [if_neg e] at hg
    exact h.iv i k' lo' hi' hg

theorem Good.cut {f : Nat} {args : List AV} {iv : Iv} {od : Tr Nat} {v : Nat} {k : IntKind} {a b c : Int} (hg : iv.get v = some (k, (a, b))) 
    (hl : Good P f args (iv.set v (some (k, (a, c - 1)))) od) (hr : Good P f args (iv.set v (some (k, (c, b)))) od) : Good P f args iv od := by
  intro σ w0 xs h1 h2 hi ho hx
  obtain ⟨n, hn, ha, hb, hw⟩ := hi.iv v k a b hg
  by_cases e : n < c
  · exact hl σ w0 xs h1 h2 (hi.set ⟨n, hn, ha, by omega, hw⟩) ho hx
  · exact hr σ w0 xs h1 h2 (hi.set ⟨n, hn, by omega, hb, hw⟩) ho hx

theorem OrdOK.set {σ : Nat → Option Value} {od : Tr Nat} (h : OrdOK σ od) {i j o : Nat} (hi : i < 64) (hj : j < 64) (hle : o ≤ 2)
    (hr : ∀ k n k' m, σ i = some (.int k n) → σ j = some (.int k' m) → (o = 0 ∧ n < m) ∨ (o = 1 ∧ n = m) ∨ (2 ≤ o ∧ m < n)) : OrdOK σ (setO od i j o) := by
  intro i' j' o' hj' hg k n k' m h1 h2
  unfold setO at hg
  rw [Tr.get_set] at hg
  by_cases e : j * 64 + i = i' * 64 + j'
  · rw [if_pos e] at hg
    cases hg
    have e1 : j = i' := by omega
    have e2 : i = j' := by omega
    subst e1; subst e2
    rcases hr _ _ _ _ h2 h1 with ⟨rfl, g⟩ | ⟨rfl, g⟩ | ⟨g1, g⟩
    · exact .inr (.inr ⟨by omega, g⟩)
    · exact .inr (.inl ⟨rfl, g.symm⟩)
    · exact .inl ⟨by omega, g⟩
  · rw [if_neg e, Tr.get_set] at hg
    by_cases e2 : i * 64 + j = i' * 64 + j'
    · rw [if_pos e2] at hg
      cases hg
      have e3 : i = i' := by omega
      have e4 : j = j' := by omega
      subst e3; subst e4
      exact hr _ _ _ _ h1 h2
    · rw [if_neg e2] at hg
      exact h i' j' o' hj' hg k n k' m h1 h2

theorem Good.ord {f : Nat} {args : List AV} {iv : Iv} {od : Tr Nat} {i j : Nat} (hi : i < 64) (hj : j < 64)
    (ha : Good P f args iv (setO od i j 0)) (hb : Good P f args iv (setO od i j 1)) (hc : Good P f args iv (setO od i j 2)) : Good P f args iv od := by
  intro σ w0 xs h1 h2 hiv ho hx
  by_cases c : ∃ k n k' m, σ i = some (.int k n) ∧ σ j = some (.int k' m)
  · obtain ⟨k, n, k', m, e1, e2⟩ := c
    have key : ∀ (o : Nat), o ≤ 2 → ((o = 0 ∧ n < m) ∨ (o = 1 ∧ n = m) ∨ (2 ≤ o ∧ m < n)) → OrdOK σ (setO od i j o) := fun o hle hr => ho.set hi hj hle fun k1 n1 k2 m1 g1 g2 => by
      rw [e1] at g1; cases g1
      rw [e2] at g2; cases g2
      exact hr
    rcases Int.lt_trichotomy n m with c | c | c
    · exact ha σ w0 xs h1 h2 hiv (key 0 (by omega) (.inl ⟨rfl, c⟩)) hx
    · exact hb σ w0 xs h1 h2 hiv (key 1 (by omega) (.inr (.inl ⟨rfl, c⟩))) hx
    · exact hc σ w0 xs h1 h2 hiv (key 2 (by omega) (.inr (.inr ⟨by omega, c⟩))) hx
  · exact ha σ w0 xs h1 h2 hiv (ho.set hi hj (by omega) fun k1 n1 k2 m1 g1 g2 => absurd ⟨_, _, _, _, g1, g2⟩ c) hx

theorem cxK_get {K f : Nat} {iv : Iv} {od : Tr Nat} (hne : K ≠ f) (hfn : hasFn P f = true) : ∃ fi, (cxK P K iv od).fns.get f = some fi := by
  have : ∃ fi, (cxOf P).fns.get f = some fi := by
    unfold hasFn at hfn
    cases hp : P.funcs[f]? with
    | none => rw [hp] at hfn; cases hfn
    | some fn =>
      rw [hp] at hfn
      simp only [obind_some] at hfn
      have hlt := (Array.getElem?_eq_some_iff.1 hp).1
      show ∃ fi, (trS fnOf P.funcs.toList 0 .nil).get f = some fi
      rw [trS_get, if_pos (by simpa using hlt)]
      simp only [Nat.sub_zero, Array.getElem?_toList, hp, Option.bind_some]
      cases hq : fnOf fn with
      | none => rw [hq] at hfn; cases hfn
      | some fi => exact ⟨fi, rfl⟩
  obtain ⟨fi, h⟩ := this
  exact ⟨fi, by show ((cxOf P).fns.set K none).get f = some fi; rw [Tr.get_set, if_neg hne]; exact h⟩

theorem Good.of_check (hm : P.follows .mixedOrders = true) {K n f : Nat} {args : List AV} {fk : Func} (hk : P.funcs[K]? = some fk) (hkn : (fk.name == "runtime.NumGoroutine") = false) (hkb : fk.body.isSome = true)
    (hcall : ∀ w, Calls P K #[] w fun e w' => e = .returned (.bool true) ∧ Below w.heap.size w w') (hne : K ≠ f) (hfn : hasFn P f = true) :
    ∀ (t : Split) {iv : Iv} {od : Tr Nat}, check (cxK P K .nil .nil) n f args t iv od = true → Good P f args iv od
  | .leaf, iv, od, h => by
    intro σ w0 xs h1 h2 hi ho hx
    change isTrue (run (cxK P K iv od) n (.call f (concs iv args)) st0) = true at h
    obtain ⟨st', h⟩ := isTrue_inv h
    obtain ⟨fi, hfi⟩ := cxK_get (iv := iv) (od := od) hne hfn
    exact (calls_of_run (cxK_ok h1 h2 hi ho) (cxK_fns hm hk hkn hkb hcall) h (concs_den hi hx) hfi).mono fun e w' ⟨E', x, hb, hx, he⟩ => by
      simp only [AV.den, Option.some.injEq] at hx
      subst hx
      exact ⟨he, hb⟩
  | .cut v c l r, iv, od, h => by
    change Option.rec false (fun p => cutOK p.2.1 p.2.2 c && ((iv.setK v (some (p.1, (p.2.1, isub c 1))) fun iv => check (cxK P K .nil .nil) n f args l iv od) && (iv.setK v (some (p.1, (c, p.2.2))) fun iv => check (cxK P K .nil .nil) n f args r iv od))) (iv.get v) = true at h
    simp only [Tr.setK_eq] at h
    cases hg : iv.get v with
    | none => rw [hg] at h; cases h
    | some p =>
      rw [hg] at h
      obtain ⟨k, a, b⟩ := p
      simp only [Bool.and_eq_true, isub_eq] at h
      exact Good.cut hg (Good.of_check hm hk hkn hkb hcall hne hfn l h.2.1) (Good.of_check hm hk hkn hkb hcall hne hfn r h.2.2)
  | .ord i j a b c, iv, od, h => by
    change ((Nat.blt i 64 && Nat.blt j 64) && ((od.setK (i * 64 + j) (some 0) fun od => od.setK (j * 64 + i) (some 2) fun od => check (cxK P K .nil .nil) n f args a iv od) && ((od.setK (i * 64 + j) (some 1) fun od => od.setK (j * 64 + i) (some 1) fun od => check (cxK P K .nil .nil) n f args b iv od) && (od.setK (i * 64 + j) (some 2) fun od => od.setK (j * 64 + i) (some 0) fun od => check (cxK P K .nil .nil) n f args c iv od)))) = true at h
    simp only [Tr.setK_eq] at h
    simp only [Bool.and_eq_true, Nat.blt_eq] at h
    exact Good.ord h.1.1 h.1.2 (Good.of_check hm hk hkn hkb hcall hne hfn a h.2.1) (Good.of_check hm hk hkn hkb hcall hne hfn b h.2.2.1) (Good.of_check hm hk hkn hkb hcall hne hfn c h.2.2.2)
end
end Go.Sx
