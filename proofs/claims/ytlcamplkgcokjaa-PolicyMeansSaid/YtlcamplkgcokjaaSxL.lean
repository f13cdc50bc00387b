import Derived.Test.YtlcamplkgcokjaaSxK
import Derived.WideKeyArgs
import Derived.OpenShut
/-! A law's row, of a walk for whatever arguments. -/
namespace Go.Sx
open Go.RowKit (Below)
open Go.ChangeShapes Go.WideShapes Go.ChangeAt Go.RowKit
section
variable {P : Program} {H : Type} {enc : TypeId × Value → H}

noncomputable def readAll (P : Program) (ts : List TypeId) : Bool := ts.all fun t => P.readableRec t && decide (t < P.types.size)
theorem trodAll_stays (hl : laidOutB P = true) {W W' : World} {sp : Nat → Bool} : ∀ {ts : List TypeId} {vs : List Value} {ds : List (DataW H)} {ps : List MemPlace}, readAll P ts = true →
    DataW.TrodAll enc P W 0 (fun _ => true) true ts vs ds ps → (∀ p ∈ ps, W.sameAt W' p) → (∀ p ∈ ps, sp p.block = true) → DataW.TrodAll enc P W' 0 sp true ts vs ds ps
  | [], [], [], ps, _, h, _, _ => h
  | t :: ts, v :: vs, d :: ds, ps, hr, h, hs, hp => by
    obtain ⟨p, q, h1, h2, rfl⟩ := h
    simp only [readAll, List.all_cons, Bool.and_eq_true, decide_eq_true_eq] at hr
    exact ⟨p, q, WideElems.Trod_stays hl hr.1.1 hr.1.2 h1 (fun x hx => hs x (List.mem_append_left _ hx)) (fun x hx => hp x (List.mem_append_left _ hx)),
      trodAll_stays hl (by simpa [readAll] using hr.2) h2 (fun x hx => hs x (List.mem_append_right _ hx)) (fun x hx => hp x (List.mem_append_right _ hx)), rfl⟩
  | [], [], _ :: _, _, _, h, _, _ => h.elim
  | [], _ :: _, _, _, _, h, _, _ => h.elim
  | _ :: _, [], _, _, _, h, _, _ => h.elim
  | _ :: _, _ :: _, [], _, _, h, _, _ => h.elim

theorem trodAll_length {W : World} {sp : Nat → Bool} {b : Nat} {hd : Bool} : ∀ {ts : List TypeId} {vs : List Value} {ds : List (DataW H)} {ps : List MemPlace}, DataW.TrodAll enc P W b sp hd ts vs ds ps → vs.length = ts.length ∧ ds.length = ts.length
  | [], [], [], ps, _ => ⟨rfl, rfl⟩
  | t :: ts, v :: vs, d :: ds, ps, h => by
    obtain ⟨p, q, _, h2, _⟩ := h
    have := trodAll_length h2
    simp [this.1, this.2]
  | [], [], _ :: _, _, h => h.elim
  | [], _ :: _, _, _, h => h.elim
  | _ :: _, [], _, _, h => h.elim
  | _ :: _, _ :: _, [], _, h => h.elim

/-- The row's end. -/
theorem law_post {f : Func} {s : ChangeSpec} {W W' : World} {args : Array Value} {ds gs : List (DataW H)} {before : List MemPlace} {tb : TypeId} (hl : laidOutB P = true) (hv : s.vars = []) (hr : readAll P f.params.toList = true)
    (hres : f.resultTypes = #[tb]) (htb : P.underlying tb = some .bool) (hW : DataW.Whole enc P f.params.toList s.vars false W args.toList ds gs before)
    (hs1 : (s.fn H ds).results = [.lit (.bool true)]) (hs2 : (s.fn H ds).args = ds) (hs3 : (s.fn H ds).vars = []) (hb : Below W.heap.size W W') :
    s.post enc P f false true false false W args (.bool true) W' := by
  have hW' := hW
  have hlt := fun p hp => hW.lt p hp
  obtain ⟨p, q, hA, hV, rfl, hfz, hnd⟩ := hW
  rw [hv] at hV
  obtain ⟨rfl, rfl⟩ := trodVars_none hV
  rw [List.append_nil] at hW' hlt
  refine post_of_below (pa := p) (pv := []) hW' (fun _ _ _ => ?_) (fun sp hsp => ?_) (fun _ _ => ?_) (by simp) hb ?_
  · rw [List.append_nil, hs1, hres]
    exact trodAll_mk1 (shut_bool htb _)
  · rw [List.append_nil, hs2]
    exact trodAll_stays hl hr hA (fun x hx => hb.same (hlt x hx)) (fun x hx => hsp x hx)
  · rw [List.append_nil, hs3, hv]; rfl
  · exact ok_one hres rfl (okWide_bool_mk htb _)

/-! ### Arguments of whole numbers -/
inductive Sh where
  | one (k : IntKind)
  | agg (ks : List IntKind)
def Sh.kinds : Sh → List IntKind
  | .one k => [k]
  | .agg ks => ks
def tmplL : Nat → Nat → List AV
  | _, 0 => []
  | off, n + 1 => .opq off :: tmplL (off + 1) n
def Sh.tmpl (off : Nat) : Sh → AV
  | .one _ => .opq off
  | .agg ks => .agg (tmplL off ks.length)
def tmpls : Nat → List Sh → List AV
  | _, [] => []
  | off, s :: r => s.tmpl off :: tmpls (off + s.kinds.length) r
def litV (p : IntKind × Int) : Value := .int p.1 p.2
def Sh.fits (s : Sh) (v : Value) (L : List (IntKind × Int)) : Prop :=
  L.map (·.1) = s.kinds ∧ (match s with
    | .one _ => [v] = L.map litV
    | .agg _ => v = .agg (L.map litV).toArray)
def sigmaOf (L : List (IntKind × Int)) (i : Nat) : Option Value := (L[i]?).map litV

theorem tmplL_den {L : List (IntKind × Int)} {E : Env} : ∀ (M : List (IntKind × Int)) (off : Nat), (∀ i, i < M.length → L[off + i]? = M[i]?) → denL (sigmaOf L) E (tmplL off M.length) = some (M.map litV)
  | [], off, _ => rfl
  | p :: M, off, h => by
    refine denL_cons.2 ⟨litV p, M.map litV, ?_, tmplL_den M (off + 1) fun i hi => ?_, rfl⟩
    · have := h 0 (by simp)
      simp only [Nat.add_zero, List.getElem?_cons_zero] at this
      simp [AV.den, sigmaOf, this]
    · have := h (i + 1) (by simpa using hi)
      simp only [List.getElem?_cons_succ] at this
      rw [← this]; congr 1; omega
theorem tmpls_den {E : Env} {L : List (IntKind × Int)} : ∀ (ss : List Sh) (vs : List Value) (Ls : List (List (IntKind × Int))) (pre : List (IntKind × Int)), ss.length = vs.length → Ls.length = ss.length →
    (∀ (i : Nat) (s : Sh) (v : Value) (M : List (IntKind × Int)), ss[i]? = some s → vs[i]? = some v → Ls[i]? = some M → s.fits v M) → L = pre ++ Ls.flatten → denL (sigmaOf L) E (tmpls pre.length ss) = some vs
  | [], [], [], _, _, _, _, _ => rfl
  | s :: ss, v :: vs, M :: Ls, pre, h1, h2, h, hL => by
    obtain ⟨f1, f2⟩ := h 0 s v M rfl rfl rfl
    have hlen : s.kinds.length = M.length := by rw [← f1]; simp
    have hget : ∀ i, i < M.length → L[pre.length + i]? = M[i]? := fun i hi => by
      rw [hL, List.getElem?_append_right (by omega), List.flatten_cons, List.getElem?_append_left (by omega)]
      congr 1; omega
    have ht := tmplL_den (E := E) M pre.length hget
    refine denL_cons.2 ⟨v, vs, ?_, ?_, rfl⟩
    · cases s with
      | one k =>
        simp only at f2
        have h1 : M.length = 1 := by rw [← hlen]; rfl
        rw [h1] at ht
        rw [← f2] at ht
        obtain ⟨a, b, ha, _, hab⟩ := denL_cons.1 ht
        rw [(List.cons.inj hab).1]
        exact ha
      | agg ks =>
        simp only at f2
        have : ks.length = M.length := hlen
        show (AV.agg (tmplL pre.length ks.length)).den _ E = some v
        rw [this]
        simp [AV.den, ht, f2]
    · have := tmpls_den (E := E) (L := L) ss vs Ls (pre ++ M) (by simpa using h1) (by simpa using h2) (fun i s v M a b c => h (i + 1) s v M (by simpa using a) (by simpa using b) (by simpa using c)) (by rw [hL]; simp)
      rw [List.length_append] at this
      rw [hlen]
      exact this
  | [], _ :: _, _, _, h1, _, _, _ => by simp at h1
  | _ :: _, [], _, _, h1, _, _, _ => by simp at h1
  | [], [], _ :: _, _, _, h2, _, _ => by simp at h2
  | _ :: _, _ :: _, [], _, _, h2, _, _ => by simp at h2

noncomputable def kindIv (k : IntKind) : IntKind × (Int × Int) := (k, (minOf k, maxOf k))
noncomputable def ivK (ks : List IntKind) : Iv := trS (fun k => some (kindIv k)) ks 0 .nil
theorem minmax {k : IntKind} {n : Int} (h : (Lit.int k n).wf = true) : minOf k ≤ n ∧ n ≤ maxOf k := by
  simp only [Lit.wf, Bool.and_eq_true, decide_eq_true_eq] at h
  cases k <;> simp only [IntKind.min, IntKind.max, IntKind.signed, IntKind.bits] at h <;> simp [minOf, maxOf] at h ⊢ <;> omega
theorem ivK_ok {L : List (IntKind × Int)} (hw : ∀ p ∈ L, (Lit.int p.1 p.2).wf = true) : IvOK (sigmaOf L) (ivK (L.map (·.1))) := by
  refine ⟨fun i k lo hi hg => ?_⟩
  obtain ⟨k', hk, h⟩ := trS_some hg
  cases h
  rw [List.getElem?_map] at hk
  cases hp : L[i]? with
  | none => rw [hp] at hk; cases hk
  | some p =>
    rw [hp] at hk
    cases hk
    have hwp := hw p (List.mem_of_getElem? hp)
    have := minmax hwp
    exact ⟨p.2, by simp [sigmaOf, hp, litV], this.1, this.2, hwp⟩
theorem sigmaOf_one {L : List (IntKind × Int)} : ∀ i x, sigmaOf L i = some x → x.oneCell' = true := fun i x h => by
  unfold sigmaOf at h
  cases hp : L[i]? with
  | none => rw [hp] at h; cases h
  | some p => rw [hp] at h; cases h; rfl
theorem sigmaOf_bool {L : List (IntKind × Int)} : ∀ i b, sigmaOf L i ≠ some (.bool b) := fun i b h => by
  unfold sigmaOf at h
  cases hp : L[i]? with
  | none => rw [hp] at h; cases h
  | some p => rw [hp] at h; cases h

theorem cell_int {W : World} {r : Reach} {base : Nat} {u : TypeId} {k : IntKind} {v : Value} (hu : P.underlying u = some (.int k)) (h : Cell.okWide P W r base u v) : ∃ n, v = .int k n ∧ (Lit.int k n).wf = true := by
  unfold Cell.okWide at h
  rw [hu] at h
  have h' : Cell.ok P W r base u v := by
    cases v <;> exact h
  unfold Cell.ok at h'
  rw [hu] at h'
  cases v <;> first | exact h'.elim | skip
  rename_i k' n
  obtain ⟨rfl, hh⟩ := h'
  exact ⟨n, rfl, by simpa [Lit.wf, IntKind.has] using hh⟩

/-- A type's shape: whole numbers only. -/
noncomputable def shOK (P : Program) (t : TypeId) : Sh → Bool
  | .one k => match P.underlying t with
    | some (.int k') => kbeq k' k
    | _ => false
  | .agg ks => match P.underlying t, P.cellTypes P.depth t with
    | some (.struct _), some ts => Nat.beq (P.cellsOf t) ks.length && (Nat.beq ts.length ks.length && (ts.zip ks).all fun p => match P.underlying p.1 with
      | some (.int k') => kbeq k' p.2
      | _ => false)
    | _, _ => false
theorem pick_list {α β : Type} {R : α → β → Prop} : ∀ {l : List α}, (∀ x ∈ l, ∃ y, R x y) → ∃ m : List β, m.length = l.length ∧ ∀ (i : Nat) (x : α) (y : β), l[i]? = some x → m[i]? = some y → R x y
  | [], _ => ⟨[], rfl, by simp⟩
  | x :: l, h => by
    obtain ⟨y, hy⟩ := h x (by simp)
    obtain ⟨m, hm, hr⟩ := pick_list fun z hz => h z (List.mem_cons_of_mem _ hz)
    refine ⟨y :: m, by simp [hm], fun i a b ha hb => ?_⟩
    cases i with
    | zero => simp at ha hb; subst ha; subst hb; exact hy
    | succ i => exact hr i a b (by simpa using ha) (by simpa using hb)
theorem sh_fits {W : World} {base : Nat} {t : TypeId} {s : Sh} {v : Value} (hs : shOK P t s = true) (h : Value.okWide P W .any base t v) : ∃ L, s.fits v L ∧ ∀ p ∈ L, (Lit.int p.1 p.2).wf = true := by
  cases s with
  | one k =>
    change (match P.underlying t with | some (.int k') => kbeq k' k | _ => false) = true at hs
    split at hs
    · rename_i k' hu
      have hk := kbeq_eq hs
      subst hk
      unfold Value.okWide at h
      rw [hu] at h
      obtain ⟨n, rfl, hw⟩ := cell_int hu h
      exact ⟨[(k', n)], ⟨rfl, rfl⟩, by simpa using hw⟩
    · cases hs
  | agg ks =>
    change (match P.underlying t, P.cellTypes P.depth t with
      | some (.struct _), some ts => Nat.beq (P.cellsOf t) ks.length && (Nat.beq ts.length ks.length && (ts.zip ks).all fun p => match P.underlying p.1 with
        | some (.int k') => kbeq k' p.2
        | _ => false)
      | _, _ => false) = true at hs
    split at hs
    · rename_i fs ts hu hct
      simp only [Bool.and_eq_true, beq_iff, decide_eq_true_eq, List.all_eq_true] at hs
      obtain ⟨h1, h2, h3⟩ := hs
      unfold Value.okWide at h
      rw [hu] at h
      obtain ⟨cs, rfl, hsz, ts', hct', _, hcell⟩ := h
      rw [hct] at hct'
      cases hct'
      have hlen : cs.toList.length = ks.length := by simp [hsz, h1]
      have key : ∀ i, i < ks.length → ∃ n, cs[i]? = some (.int (ks.getD i .i64) n) ∧ (Lit.int (ks.getD i .i64) n).wf = true := by
        intro i hi
        have hci : i < cs.size := by rw [hsz, h1]; exact hi
        obtain ⟨u, hu1, hu2⟩ := hcell i cs[i] (by simp [hci])
        rw [Nat.mod_eq_of_lt (by omega)] at hu1
        have hm : (u, ks.getD i .i64) ∈ ts.zip ks := by
          refine List.mem_of_getElem? (i := i) ?_
          rw [List.getElem?_zip_eq_some]
          exact ⟨hu1, by simp [List.getD_eq_getElem?_getD, hi]⟩
        have h4 := h3 _ hm
        simp only at h4
        split at h4
        · rename_i k' huk
          have hk := kbeq_eq h4
          obtain ⟨n, hn, hw⟩ := cell_int huk hu2
          rw [hk] at hn hw
          exact ⟨n, by simp [hci, hn], hw⟩
        · cases h4
      obtain ⟨m, hm, hr⟩ := pick_list (l := List.range ks.length) (R := fun i n => cs[i]? = some (.int (ks.getD i .i64) n) ∧ (Lit.int (ks.getD i .i64) n).wf = true) (fun i hi => key i (by simpa using hi))
      rw [List.length_range] at hm
      refine ⟨ks.zip m, ⟨?_, ?_⟩, fun p hp => ?_⟩
      · show (ks.zip m).map (·.1) = ks
        rw [List.map_fst_zip]; omega
      · show Value.agg cs = _
        congr 1
        apply Array.ext'
        apply List.ext_getElem?
        intro i
        by_cases hi : i < ks.length
        · have hmi : m[i]? = some (m[i]'(by omega)) := List.getElem?_eq_getElem (by omega)
          obtain ⟨g1, _⟩ := hr i i _ (by simp [hi]) hmi
          have hki : ks[i]? = some (ks.getD i .i64) := by simp [List.getD_eq_getElem?_getD, hi]
          simp only [Array.getElem?_toList, g1, List.getElem?_map]
          have : (ks.zip m)[i]? = some (ks.getD i .i64, m[i]'(by omega)) := by
            rw [List.getElem?_zip_eq_some]
            exact ⟨hki, hmi⟩
          rw [this]
          rfl
        · rw [List.getElem?_eq_none (by omega), List.getElem?_eq_none (by simp; omega)]
      · obtain ⟨i, hi⟩ := List.mem_iff_getElem?.1 hp
        rw [List.getElem?_zip_eq_some] at hi
        have hlt := (List.getElem?_eq_some_iff.1 hi.1).1
        obtain ⟨_, g2⟩ := hr i i p.2 (by simp [hlt]) hi.2
        have hki : ks.getD i .i64 = p.1 := by simp [List.getD_eq_getElem?_getD, hi.1]
        rw [hki] at g2
        exact g2
    · cases hs

/-- A walk for whatever whole numbers. -/
theorem good_calls {f : Nat} {ts : List TypeId} {ss : List Sh} (hg : Good P f (tmpls 0 ss) (ivK (ss.flatMap Sh.kinds)) .nil) (hlen : ts.length = ss.length) (hsh : (ts.zip ss).all (fun p => shOK P p.1 p.2) = true)
    {W : World} {base : Nat} {args : Array Value} (hal : args.toList.length = ts.length) (hok : ∀ (j : Nat) t v, ts[j]? = some t → args[j]? = some v → Value.okWide P W .any base t v) :
    Calls P f args W fun e w' => e = .returned (.bool true) ∧ Below W.heap.size W w' := by
  have hex : ∀ i ∈ List.range ss.length, ∃ L, (∃ s v, ss[i]? = some s ∧ args.toList[i]? = some v ∧ s.fits v L) ∧ ∀ p ∈ L, (Lit.int p.1 p.2).wf = true := by
    intro i hi
    have hi : i < ss.length := by simpa using hi
    have hs : ss[i]? = some ss[i] := List.getElem?_eq_getElem hi
    have ht : ts[i]? = some (ts[i]'(by omega)) := List.getElem?_eq_getElem (by omega)
    have hv : args.toList[i]? = some (args.toList[i]'(by omega)) := List.getElem?_eq_getElem (by omega)
    have hm := List.all_eq_true.1 hsh (ts[i]'(by omega), ss[i]) (List.mem_of_getElem? (i := i) (by rw [List.getElem?_zip_eq_some]; exact ⟨ht, hs⟩))
    have hv' : args[i]? = some (args.toList[i]'(by omega)) := by rw [← hv]; simp
    obtain ⟨L, h1, h2⟩ := sh_fits hm (hok i _ _ ht hv')
    exact ⟨L, ⟨_, _, hs, hv, h1⟩, h2⟩
  obtain ⟨Ls, hl, hr⟩ := pick_list (R := fun (i : Nat) (L : List (IntKind × Int)) => (∃ (s : Sh) (v : Value), ss[i]? = some s ∧ args.toList[i]? = some v ∧ s.fits v L) ∧ ∀ p ∈ L, (Lit.int p.1 p.2).wf = true) hex
  rw [List.length_range] at hl
  have hfit : ∀ (i : Nat) (s : Sh) (v : Value) (M : List (IntKind × Int)), ss[i]? = some s → args.toList[i]? = some v → Ls[i]? = some M → s.fits v M := by
    intro i s v M a b c
    have hi := (List.getElem?_eq_some_iff.1 a).1
    obtain ⟨⟨s', v', a', b', g⟩, _⟩ := hr i i M (by simp [hi]) c
    rw [a] at a'; cases a'
    rw [b] at b'; cases b'
    exact g
  have hw : ∀ p ∈ Ls.flatten, (Lit.int p.1 p.2).wf = true := by
    intro p hp
    obtain ⟨M, hM, hpM⟩ := List.mem_flatten.1 hp
    obtain ⟨i, hi⟩ := List.mem_iff_getElem?.1 hM
    have hlt := (List.getElem?_eq_some_iff.1 hi).1
    exact (hr i i M (by rw [List.getElem?_range (by omega)]) hi).2 p hpM
  have hk : Ls.flatten.map (·.1) = ss.flatMap Sh.kinds := by
    rw [List.map_flatten, List.flatMap_def]
    congr 1
    apply List.ext_getElem?
    intro i
    rw [List.getElem?_map, List.getElem?_map]
    by_cases hi : i < ss.length
    · have hs : ss[i]? = some ss[i] := List.getElem?_eq_getElem hi
      have hv : args.toList[i]? = some (args.toList[i]'(by omega)) := List.getElem?_eq_getElem (by omega)
      have hL : Ls[i]? = some (Ls[i]'(by omega)) := List.getElem?_eq_getElem (by omega)
      have := (hfit i _ _ _ hs hv hL).1
      rw [hs, hL]
      simp [this]
    · rw [List.getElem?_eq_none (by omega), List.getElem?_eq_none (by omega)]
      rfl
  have hden := tmpls_den (E := ⟨[], []⟩) (L := Ls.flatten) ss args.toList Ls [] (by omega) hl hfit (by simp)
  have := hg (sigmaOf Ls.flatten) W args.toList sigmaOf_one sigmaOf_bool (hk ▸ ivK_ok hw) (fun i j o _ h => by simp at h) hden
  simpa using this
end
end Go.Sx
