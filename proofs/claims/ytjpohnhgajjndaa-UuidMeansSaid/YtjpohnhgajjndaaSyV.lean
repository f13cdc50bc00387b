import Derived.Test.YtjpohnhgajjndaaSyW
import Derived.WideKeyArgs
import Derived.OpenShut
/-! Calls with arguments of whole numbers and truth values that are not known. -/
namespace Go.Sy
open Go.RowKit (Below)

/-- The start: so many numbers, of which some is known. -/
noncomputable def stS (nz : Nat) (fs : List T) : St := ⟨0, 0, .nil, .nil, ⟨.nil, .nil, fs, nz, 0, 0, 0⟩⟩
/-- A run from there, the tables written out. -/
noncomputable def runS (P : Program) (con : Tr Con) (glob : Tr (Tr AV)) (n nz : Nat) (fs : List T) (t : Task) (K : Res → VC) : VC :=
  trK (fun _ => undOf P.types) P.types.toList 0 .nil fun u => trK (fun _ i => some i.size) P.types.toList 0 .nil fun s => trK (fun _ => zeroOf P.types) P.types.toList 0 .nil fun z =>
  trK (fun i _ => eqmOf P i) P.types.toList 0 .nil fun e => trK (fnOf u s z) P.funcs.toList 0 .nil fun f =>
  run { eqm := e, und := u, size := s, zero := z, fns := f, glob := glob, con := con } n t (stS nz fs) K
theorem runS_eq (P : Program) (con : Tr Con) (glob : Tr (Tr AV)) (n nz : Nat) (fs : List T) (t : Task) (K : Res → VC) : runS P con glob n nz fs t K = run (cxWith P con glob) n t (stS nz fs) K := by
  unfold runS cxWith
  rw [trK_eq, trK_eq, trK_eq, trK_eq, trK_eq]
abbrev EZ (zs : List Int) : Env := ⟨[], [], zs, [], []⟩
theorem stS_rel {X : Tabs} (w0 : World) {zs : List Int} {fs : List T} (hf : FOK ⟨zs, []⟩ fs) : StRel X (· < w0.heap.size) w0 (EZ zs) (stS zs.length fs) w0 :=
  ⟨rfl, rfl, rfl, rfl, rfl, fun _ h => h, .refl _ _, fun k p h => by simp at h, fun k b h => by simp [stS] at h, fun k b h => by simp [stS] at h, fun k1 k2 b1 b2 id1 sh1 id2 sh2 h => by simp [stS] at h, fun f l h => by simp [stS] at h,
   fun k b h => by simp [stS] at h, fun k b h => by simp [stS] at h, fun k1 k2 o1 o2 p h => by simp [stS] at h, fun k o h => by simp [stS] at h, hf, fun k b p h => by simp [stS] at h, fun f l h => by simp [stS] at h⟩

section
variable {P : Program}
/-- Whatever the numbers are of which that is known, the call returns true. -/
def Symb (P : Program) (hm : P.follows .mixedOrders = true) (con : Tr Con) (glob : Tr (Tr AV)) (f : Nat) (args : List AV) (nz : Nat) (fs : List T) : Prop :=
  ∀ (zs : List Int) (W : World) (xs : List Value), zs.length = nz → FOK ⟨zs, []⟩ fs → denL (EZ zs) args = some xs → GlobOK glob W → ConOK P hm con glob W (fun _ _ => True) →
    Calls P f xs.toArray W fun e w' => e = .returned (.bool true) ∧ Below W.heap.size W w'
theorem Symb.run {hm : P.follows .mixedOrders = true} {con : Tr Con} {glob : Tr (Tr AV)} {n f nz : Nat} {args : List AV} {fs : List T} (h : (runS P con glob n nz fs (.call f args) isTrueK).triv = true) (hfn : hasFn P f = true) :
    Symb P hm con glob f args nz fs := by
  intro zs W xs hz hf hd hg hcon
  subst hz
  rw [runS_eq] at h
  have hr := (run_ok (cxOf_ok P hm con hg) (cxOf_fns hcon) n).call (E := EZ zs) (R := []) (stS_rel W hf) hd (triv_holds h)
  obtain ⟨fn, g1, g2, g3⟩ := hasFn_inv hfn
  rw [callFunc_enter (P := (tabs P hm con glob).P) g1 g2 g3] at hr
  have hr : CallsIn (FW none) 0 P f xs.toArray W _ := hr
  refine (CallsIn.calls hr (FW_room none)).mono fun e w' he => ?_
  cases e with
  | returned v =>
    obtain ⟨h1, h2⟩ := isTrueK_out he
    subst h1
    exact ⟨rfl, Kept.below h2⟩
  | panicked c => exact he.elim
  | outgrown => exact he.elim

/-- A comparison of numbers. -/
noncomputable def simpT (nz : Nat) : T → Bool
  | .z _ => true
  | .zv i => Nat.blt i nz
  | _ => false
noncomputable def zcOK (nz : Nat) : T → Bool
  | .cmp op x y => (isCmp op && simpT nz x) && simpT nz y
  | _ => false
theorem simpT_ev {zs : List Int} {t : T} (h : simpT zs.length t = true) : ∃ n, t.ev ⟨zs, []⟩ = some (.i n) := by
  unfold simpT at h
  split at h
  · exact ⟨_, rfl⟩
  · rename_i i
    rw [Nat.blt_eq] at h
    exact ⟨zs[i], by simp [T.ev, h]⟩
  · cases h
theorem zcOK_ev {zs : List Int} {c : T} (h : zcOK zs.length c = true) : ∃ b, c.ev ⟨zs, []⟩ = some (.b b) := by
  unfold zcOK at h
  split at h
  · rename_i op x y
    simp only [Bool.and_eq_true] at h
    obtain ⟨n, hn⟩ := simpT_ev h.1.2
    obtain ⟨m, hm⟩ := simpT_ev h.2
    have h1 := h.1.1
    rw [cmp_ev hn hm]
    cases op <;> first | (exact absurd h1 (by decide)) | exact ⟨_, rfl⟩
  · cases h
theorem Symb.cut {hm : P.follows .mixedOrders = true} {con : Tr Con} {glob : Tr (Tr AV)} {f nz : Nat} {args : List AV} {fs : List T} (c : T) (hc : zcOK nz c = true) (h1 : Symb P hm con glob f args nz (addF c fs)) (h2 : Symb P hm con glob f args nz (addF (mkNot c) fs)) :
    Symb P hm con glob f args nz fs := by
  intro zs W xs hz hf hd hg hcon
  obtain ⟨b, hb⟩ := zcOK_ev (zs := zs) (hz ▸ hc)
  cases b with
  | true => exact h1 zs W xs hz (addF_ok hb hf) hd hg hcon
  | false => exact h2 zs W xs hz (addF_ok (mkNot_ev hb) hf) hd hg hcon
theorem Symb.drop {hm : P.follows .mixedOrders = true} {con : Tr Con} {glob : Tr (Tr AV)} {f nz : Nat} {args : List AV} {fs : List T} (h : Symb P hm con glob f args nz []) : Symb P hm con glob f args nz fs :=
  fun zs W xs hz _ => h zs W xs hz fun _ h => by cases h
theorem Symb.eq {hm : P.follows .mixedOrders = true} {con : Tr Con} {glob : Tr (Tr AV)} {f nz : Nat} {args : List AV} {fs gs : List T} (h : Symb P hm con glob f args nz gs) (he : gs = fs) : Symb P hm con glob f args nz fs := he ▸ h
end

/-! ### The arguments -/
/-- A cell: a whole number, or a truth value. -/
inductive Ck where
  | i (k : IntKind)
  | b
noncomputable def Ck.av (j : Nat) : Ck → AV
  | .i k => .sym k (.zv j)
  | .b => .cnd (.cmp .neq (.zv j) (.z 0))
noncomputable def Ck.facts (j : Nat) : Ck → List T
  | .i k => [.cmp .geq (.zv j) (.z (minOf k)), .cmp .leq (.zv j) (.z (maxOf k))]
  | .b => []
def Ck.fits (v : Value) (n : Int) : Ck → Prop
  | .i k => v = .int k n ∧ (Lit.int k n).wf = true
  | .b => v = .bool (decide (n ≠ 0))
def fitL : List Ck → List Value → List Int → Prop
  | [], [], [] => True
  | c :: cs, v :: vs, n :: ns => c.fits v n ∧ fitL cs vs ns
  | _, _, _ => False
noncomputable def tmplL (j : Nat) : List Ck → List AV
  | [] => []
  | c :: cs => c.av j :: tmplL (j + 1) cs
noncomputable def factL (j : Nat) : List Ck → List T
  | [] => []
  | c :: cs => c.facts j ++ factL (j + 1) cs
inductive Sh where
  | one (c : Ck)
  | agg (cs : List Ck)
def Sh.cs : Sh → List Ck
  | .one c => [c]
  | .agg cs => cs
noncomputable def Sh.tmpl (j : Nat) : Sh → AV
  | .one c => c.av j
  | .agg cs => .agg (tmplL j cs)
noncomputable def tmpls : Nat → List Sh → List AV
  | _, [] => []
  | j, s :: r => s.tmpl j :: tmpls (j + s.cs.length) r
noncomputable def facts (j : Nat) (ss : List Sh) : List T := factL j (ss.flatMap Sh.cs)
def Sh.fits (v : Value) (ns : List Int) : Sh → Prop
  | .one c => ∃ n, ns = [n] ∧ c.fits v n
  | .agg cs => ∃ vs, v = .agg vs.toArray ∧ fitL cs vs ns
def argsFit : List Sh → List Value → List Int → Prop
  | [], [], [] => True
  | s :: ss, v :: vs, ns => ∃ n1 n2, ns = n1 ++ n2 ∧ s.fits v n1 ∧ argsFit ss vs n2
  | _, _, _ => False

theorem fitL_len : ∀ {cs : List Ck} {vs : List Value} {ns : List Int}, fitL cs vs ns → ns.length = cs.length
  | [], [], [], _ => rfl
  | c :: cs, v :: vs, n :: ns, h => by simp [fitL_len h.2]
  | [], [], _ :: _, h => h.elim
  | [], _ :: _, _, h => h.elim
  | _ :: _, [], _, h => h.elim
  | _ :: _, _ :: _, [], h => h.elim
theorem shfits_len {s : Sh} {v : Value} {ns : List Int} (h : s.fits v ns) : ns.length = s.cs.length := by
  cases s with
  | one c => obtain ⟨n, rfl, _⟩ := h; rfl
  | agg cs => obtain ⟨vs, _, h⟩ := h; exact fitL_len h
theorem minmax {k : IntKind} {n : Int} (h : (Lit.int k n).wf = true) : minOf k ≤ n ∧ n ≤ maxOf k := by
  simp only [Lit.wf, Bool.and_eq_true, decide_eq_true_eq] at h
  cases k <;> simp only [IntKind.min, IntKind.max, IntKind.signed, IntKind.bits] at h <;> simp [minOf, maxOf] at h ⊢ <;> omega
theorem av_den {c : Ck} {v : Value} {n : Int} {zs : List Int} {j : Nat} (h : c.fits v n) (hz : zs[j]? = some n) : AV.den (EZ zs) (c.av j) = some v := by
  cases c with
  | i k =>
    obtain ⟨rfl, hw⟩ := h
    have hz' : (EZ zs).va.z[j]? = some n := hz
    simp [Ck.av, AV.den, T.ev, hz', hw]
  | b =>
    have h : v = .bool (decide (n ≠ 0)) := h
    subst h
    have hz' : (EZ zs).va.z[j]? = some n := hz
    simp [Ck.av, AV.den, T.ev, hz', zcm]
theorem facts_ok {c : Ck} {v : Value} {n : Int} {zs : List Int} {j : Nat} (h : c.fits v n) (hz : zs[j]? = some n) : FOK ⟨zs, []⟩ (c.facts j) := by
  cases c with
  | i k =>
    obtain ⟨rfl, hw⟩ := h
    obtain ⟨h1, h2⟩ := minmax hw
    intro t ht
    simp only [Ck.facts, List.mem_cons, List.not_mem_nil, or_false] at ht
    rcases ht with rfl | rfl <;> simp [T.ev, hz, zcm, h1, h2]
  | b => exact fun t ht => (by cases ht)
theorem tmplL_den {zs : List Int} : ∀ {cs : List Ck} {vs : List Value} {ns : List Int} {j : Nat}, fitL cs vs ns → (∀ i, i < ns.length → zs[j + i]? = ns[i]?) → denL (EZ zs) (tmplL j cs) = some vs
  | [], [], [], _, _, _ => rfl
  | c :: cs, v :: vs, n :: ns, j, h, hz => by
    have h0 := hz 0 (by simp)
    simp only [Nat.add_zero, List.getElem?_cons_zero] at h0
    have ht := tmplL_den (j := j + 1) h.2 fun i hi => by
      have := hz (i + 1) (by simpa using hi)
      simp only [List.getElem?_cons_succ] at this
      rw [← this]; congr 1; omega
    simp only [tmplL, denL, av_den h.1 h0, ht]
  | [], [], _ :: _, _, h, _ => h.elim
  | [], _ :: _, _, _, h, _ => h.elim
  | _ :: _, [], _, _, h, _ => h.elim
  | _ :: _, _ :: _, [], _, h, _ => h.elim
theorem FOK.append {ρ : Va} {a b : List T} (ha : FOK ρ a) (hb : FOK ρ b) : FOK ρ (a ++ b) := fun c hc => (List.mem_append.1 hc).elim (ha c) (hb c)
theorem factL_ok {zs : List Int} : ∀ {cs : List Ck} {vs : List Value} {ns : List Int} {j : Nat}, fitL cs vs ns → (∀ i, i < ns.length → zs[j + i]? = ns[i]?) → FOK ⟨zs, []⟩ (factL j cs)
  | [], [], [], _, _, _ => fun c hc => (by cases hc)
  | c :: cs, v :: vs, n :: ns, j, h, hz => by
    have h0 := hz 0 (by simp)
    simp only [Nat.add_zero, List.getElem?_cons_zero] at h0
    refine (facts_ok h.1 h0).append (factL_ok (j := j + 1) h.2 fun i hi => ?_)
    have := hz (i + 1) (by simpa using hi)
    simp only [List.getElem?_cons_succ] at this
    rw [← this]; congr 1; omega
  | [], [], _ :: _, _, h, _ => h.elim
  | [], _ :: _, _, _, h, _ => h.elim
  | _ :: _, [], _, _, h, _ => h.elim
  | _ :: _, _ :: _, [], _, h, _ => h.elim
theorem fitL_append : ∀ {as : List Ck} {vs : List Value} {ns : List Int} {bs : List Ck} {ws : List Value} {ms : List Int}, fitL as vs ns → fitL bs ws ms → fitL (as ++ bs) (vs ++ ws) (ns ++ ms)
  | [], [], [], _, _, _, _, h => h
  | _ :: _, _ :: _, _ :: _, _, _, _, h, h' => ⟨h.1, fitL_append h.2 h'⟩
  | [], [], _ :: _, _, _, _, h, _ => h.elim
  | [], _ :: _, _, _, _, _, h, _ => h.elim
  | _ :: _, [], _, _, _, _, h, _ => h.elim
  | _ :: _, _ :: _, [], _, _, _, h, _ => h.elim
theorem shfits_flat {s : Sh} {v : Value} {ns : List Int} (h : s.fits v ns) : ∃ vs, fitL s.cs vs ns := by
  cases s with
  | one c => obtain ⟨n, rfl, h⟩ := h; exact ⟨[v], h, trivial⟩
  | agg cs => obtain ⟨vs, _, h⟩ := h; exact ⟨vs, h⟩
theorem args_flat : ∀ {ss : List Sh} {vs : List Value} {ns : List Int}, argsFit ss vs ns → ∃ ws, fitL (ss.flatMap Sh.cs) ws ns
  | [], [], [], _ => ⟨[], trivial⟩
  | s :: ss, v :: vs, ns, h => by
    obtain ⟨n1, n2, rfl, h1, h2⟩ := h
    obtain ⟨w1, g1⟩ := shfits_flat h1
    obtain ⟨w2, g2⟩ := args_flat h2
    exact ⟨w1 ++ w2, by rw [List.flatMap_cons]; exact fitL_append g1 g2⟩
  | [], [], _ :: _, h => h.elim
  | [], _ :: _, _, h => h.elim
  | _ :: _, [], _, h => h.elim
theorem sh_den {zs : List Int} {s : Sh} {v : Value} {ns : List Int} {j : Nat} (h : s.fits v ns) (hz : ∀ i, i < ns.length → zs[j + i]? = ns[i]?) : AV.den (EZ zs) (s.tmpl j) = some v := by
  cases s with
  | one c =>
    obtain ⟨n, rfl, h⟩ := h
    have h0 := hz 0 (by simp)
    simp only [Nat.add_zero, List.getElem?_cons_zero] at h0
    exact av_den h h0
  | agg cs =>
    obtain ⟨vs, rfl, h⟩ := h
    simp [Sh.tmpl, AV.den, tmplL_den h hz]
theorem tmpls_den {zs : List Int} : ∀ {ss : List Sh} {vs : List Value} {ns : List Int} {j : Nat}, argsFit ss vs ns → (∀ i, i < ns.length → zs[j + i]? = ns[i]?) → denL (EZ zs) (tmpls j ss) = some vs
  | [], [], [], _, _, _ => rfl
  | s :: ss, v :: vs, ns, j, h, hz => by
    obtain ⟨n1, n2, rfl, h1, h2⟩ := h
    have hl := shfits_len h1
    have h3 := sh_den (zs := zs) (j := j) h1 fun i hi => by rw [hz i (by simp; omega), List.getElem?_append_left hi]
    have h4 := tmpls_den (zs := zs) (j := j + s.cs.length) h2 fun i hi => by
      have := hz (n1.length + i) (by simp; omega)
      rw [List.getElem?_append_right (by omega)] at this
      rw [← hl, Nat.add_assoc, this]; congr 1; omega
    simp only [tmpls, denL, h3, h4]
  | [], [], _ :: _, _, h, _ => h.elim
  | [], _ :: _, _, _, h, _ => h.elim
  | _ :: _, [], _, _, h, _ => h.elim

open Go.ChangeShapes Go.WideShapes Go.ChangeAt Go.RowKit
section
variable {P : Program}
noncomputable def ckOK (P : Program) (u : TypeId) : Ck → Bool
  | .i k => match P.underlying u with
    | some (.int k') => kbeq k' k
    | _ => false
  | .b => match P.underlying u with
    | some .bool => true
    | _ => false
theorem ck_fits {W : World} {r : Reach} {base : Nat} {u : TypeId} {v : Value} {c : Ck} (hc : ckOK P u c = true) (h : Cell.okWide P W r base u v) : ∃ n, c.fits v n := by
  cases c with
  | i k =>
    have hc : (match P.underlying u with | some (.int k') => kbeq k' k | _ => false) = true := hc
    split at hc
    · rename_i k' hu
      have hk := kbeq_eq hc
      subst hk
      unfold Cell.okWide at h
      rw [hu] at h
      have h' : Cell.ok P W r base u v := by cases v <;> exact h
      unfold Cell.ok at h'
      rw [hu] at h'
      cases v <;> first | exact h'.elim | skip
      rename_i k2 n
      obtain ⟨rfl, hh⟩ := h'
      exact ⟨n, rfl, by simpa [Lit.wf, IntKind.has] using hh⟩
    · cases hc
  | b =>
    have hc : (match P.underlying u with | some .bool => true | _ => false) = true := hc
    split at hc
    · rename_i hu
      unfold Cell.okWide at h
      rw [hu] at h
      have h' : Cell.ok P W r base u v := by cases v <;> exact h
      unfold Cell.ok at h'
      rw [hu] at h'
      cases v <;> first | exact h'.elim | skip
      rename_i b
      cases b
      · exact ⟨0, rfl⟩
      · exact ⟨1, rfl⟩
    · cases hc

/-- A type's shape. -/
noncomputable def shOK (P : Program) (t : TypeId) : Sh → Bool
  | .one c => ckOK P t c
  | .agg cs => match P.underlying t, P.cellTypes P.depth t with
    | some (.struct _), some ts => Nat.beq (P.cellsOf t) cs.length && (Nat.beq ts.length cs.length && (ts.zip cs).all fun p => ckOK P p.1 p.2)
    | _, _ => false
theorem fitL_of : ∀ {cs : List Ck} {vs : List Value}, cs.length = vs.length → (∀ (i : Nat) (c : Ck) (v : Value), cs[i]? = some c → vs[i]? = some v → ∃ n, c.fits v n) → ∃ ns, fitL cs vs ns
  | [], [], _, _ => ⟨[], trivial⟩
  | c :: cs, v :: vs, hl, h => by
    obtain ⟨n, hn⟩ := h 0 c v rfl rfl
    obtain ⟨ns, hns⟩ := fitL_of (cs := cs) (vs := vs) (by simpa using hl) fun i c v a b => h (i + 1) c v (by simpa using a) (by simpa using b)
    exact ⟨n :: ns, hn, hns⟩
  | [], _ :: _, hl, _ => by simp at hl
  | _ :: _, [], hl, _ => by simp at hl
theorem sh_fits {W : World} {base : Nat} {t : TypeId} {s : Sh} {v : Value} (hs : shOK P t s = true) (h : Value.okWide P W .any base t v) : ∃ ns, s.fits v ns := by
  cases s with
  | one c =>
    have hs : ckOK P t c = true := hs
    have h' : Cell.okWide P W .any base t v := by
      unfold ckOK at hs
      unfold Value.okWide at h
      cases c <;> simp only at hs <;> split at hs <;> first | (rename_i hu; rw [hu] at h; exact h) | cases hs
    obtain ⟨n, hn⟩ := ck_fits hs h'
    exact ⟨[n], n, rfl, hn⟩
  | agg cs =>
    change (match P.underlying t, P.cellTypes P.depth t with
      | some (.struct _), some ts => Nat.beq (P.cellsOf t) cs.length && (Nat.beq ts.length cs.length && (ts.zip cs).all fun p => ckOK P p.1 p.2)
      | _, _ => false) = true at hs
    split at hs
    · rename_i fs ts hu hct
      simp only [Bool.and_eq_true, beq_iff, decide_eq_true_eq, List.all_eq_true] at hs
      obtain ⟨h1, h2, h3⟩ := hs
      unfold Value.okWide at h
      rw [hu] at h
      obtain ⟨vs, rfl, hsz, ts', hct', _, hcell⟩ := h
      rw [hct] at hct'
      cases hct'
      obtain ⟨ns, hns⟩ := fitL_of (cs := cs) (vs := vs.toList) (by simp; omega) fun i c v hi hv => by
        have hlt := (List.getElem?_eq_some_iff.1 hi).1
        obtain ⟨u, hu1, hu2⟩ := hcell i v (by simpa using hv)
        rw [Nat.mod_eq_of_lt (by omega)] at hu1
        exact ck_fits (h3 (u, c) (List.mem_of_getElem? (i := i) (by rw [List.getElem?_zip_eq_some]; exact ⟨hu1, hi⟩))) hu2
      exact ⟨ns, vs.toList, by simp, hns⟩
    · cases hs
theorem args_fits {W : World} {base : Nat} : ∀ {ts : List TypeId} {ss : List Sh} {vs : List Value}, ts.length = ss.length → vs.length = ts.length → (ts.zip ss).all (fun p => shOK P p.1 p.2) = true → (∀ (j : Nat) t v, ts[j]? = some t → vs[j]? = some v → Value.okWide P W .any base t v) → ∃ ns, argsFit ss vs ns
  | [], [], [], _, _, _, _ => ⟨[], trivial⟩
  | t :: ts, s :: ss, v :: vs, h1, h2, h3, h4 => by
    simp only [List.zip_cons_cons, List.all_cons, Bool.and_eq_true] at h3
    obtain ⟨n1, g1⟩ := sh_fits h3.1 (h4 0 t v rfl rfl)
    obtain ⟨n2, g2⟩ := args_fits (ts := ts) (ss := ss) (vs := vs) (by simpa using h1) (by simpa using h2) h3.2 fun j t v a b => h4 (j + 1) t v (by simpa using a) (by simpa using b)
    exact ⟨n1 ++ n2, n1, n2, rfl, g1, g2⟩
  | [], [], _ :: _, _, h, _, _ => by simp at h
  | [], _ :: _, _, h, _, _, _ => by simp at h
  | _ :: _, [], _, h, _, _, _ => by simp at h
  | _ :: _, _ :: _, [], _, h, _, _ => by simp at h
/-- A walk for whatever arguments. -/
theorem symb_calls {hm : P.follows .mixedOrders = true} {con : Tr Con} {glob : Tr (Tr AV)} {f : Nat} {ts : List TypeId} {ss : List Sh} (hg : Symb P hm con glob f (tmpls 0 ss) (ss.flatMap Sh.cs).length (facts 0 ss)) (hlen : ts.length = ss.length) (hsh : (ts.zip ss).all (fun p => shOK P p.1 p.2) = true)
    {W : World} {base : Nat} {args : Array Value} (hal : args.toList.length = ts.length) (hok : ∀ (j : Nat) t v, ts[j]? = some t → args[j]? = some v → Value.okWide P W .any base t v) (hgl : GlobOK glob W) (hcon : ConOK P hm con glob W fun _ _ => True) :
    Calls P f args W fun e w' => e = .returned (.bool true) ∧ Below W.heap.size W w' := by
  obtain ⟨ns, hns⟩ := args_fits (P := P) (W := W) (base := base) hlen hal hsh fun j t v a b => hok j t v a (by simpa using b)
  obtain ⟨ws, hw⟩ := args_flat hns
  have := hg ns W args.toList (fitL_len hw) (factL_ok hw fun i _ => by simp) (tmpls_den hns fun i _ => by simp) hgl hcon
  simpa using this
end
end Go.Sy
