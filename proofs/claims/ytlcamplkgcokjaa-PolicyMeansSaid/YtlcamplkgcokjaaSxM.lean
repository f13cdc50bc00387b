import Derived.Test.YtlcamplkgcokjaaSxG
import Derived.ProofKit
import Derived.ChangeSame
/-! From an evaluation to a call; a program's tables. -/
namespace Go.Sx
open Go.RowKit (Below)

/-! ### Tables -/
noncomputable def trS {α β : Type} (f : α → Option β) (l : List α) : Nat → Tr β → Tr β :=
  List.rec (motive := fun _ => Nat → Tr β → Tr β) (fun _ t => t) (fun x _ ih i t => ih (Nat.succ i) (t.set i (f x))) l
noncomputable def trK {α β γ : Type} (f : α → Option β) (l : List α) : Nat → Tr β → (Tr β → γ) → γ :=
  List.rec (motive := fun _ => Nat → Tr β → (Tr β → γ) → γ) (fun _ t k => k t) (fun x _ ih i t k => t.setK i (f x) fun t => ih (Nat.succ i) t k) l
theorem trK_eq {α β γ : Type} (f : α → Option β) (l : List α) : ∀ (i : Nat) (t : Tr β) (k : Tr β → γ), trK f l i t k = k (trS f l i t) := by
  induction l with
  | nil => intro i t k; rfl
  | cons x l ih =>
    intro i t k
    show t.setK i (f x) (fun t => trK f l (Nat.succ i) t k) = _
    rw [Tr.setK_eq]
    exact ih _ _ _
theorem trS_get {α β : Type} (f : α → Option β) (l : List α) : ∀ (i : Nat) (t : Tr β) (j : Nat), (trS f l i t).get j = if i ≤ j ∧ j < i + l.length then (l[j - i]?).bind f else t.get j := by
  induction l with
  | nil => intro i t j; rw [if_neg (by simp only [List.length_nil]; omega)]; rfl
  | cons x l ih =>
    intro i t j
    show (trS f l (i + 1) (t.set i (f x))).get j = _
    rw [ih, Tr.get_set]
    by_cases h : i = j
    · subst h
      rw [if_neg (by omega), if_pos rfl, if_pos (by simp)]
      simp
    · rw [if_neg h]
      by_cases h2 : i + 1 ≤ j ∧ j < i + 1 + l.length
      · rw [if_pos h2, if_pos (by simp; omega)]
        have : j - i = (j - (i + 1)) + 1 := by omega
        rw [this, List.getElem?_cons_succ]
      · rw [if_neg h2, if_neg (by simp at h2 ⊢; omega)]
theorem trS_some {α β : Type} {f : α → Option β} {l : List α} {j : Nat} {y : β} (h : (trS f l 0 .nil).get j = some y) : ∃ x, l[j]? = some x ∧ f x = some y := by
  rw [trS_get] at h
  split at h
  · rw [Nat.sub_zero] at h
    cases hx : l[j]? with
    | none => rw [hx] at h; cases h
    | some x => rw [hx] at h; exact ⟨x, rfl, h⟩
  · simp at h

noncomputable def fieldsIn (n : Nat) : TypeDesc → Bool
  | .struct fs => fs.toList.all fun f => Nat.blt f.type n
  | _ => true
noncomputable def descOf (tys : Array TypeInfo) : TypeDesc → Option TypeDesc
  | .named _ u => (tys[u]?).map (·.desc)
  | d => some d
noncomputable def undOf (tys : Array TypeInfo) (i : TypeInfo) : Option TypeDesc :=
  obind (descOf tys i.desc) fun d => bif_ (fieldsIn tys.size d) (some d) none
noncomputable def zeroFor (i : TypeInfo) (l : List Value) : Option (List AV) :=
  bif_ (Nat.beq i.size l.length && (Nat.blt 0 l.length && Nat.ble i.bytes 1048576)) (ofCells l) none
noncomputable def zeroOf (i : TypeInfo) : Option (List AV) := obind i.zero fun z => zeroFor i z.cells.toList
noncomputable def fnOf (f : Func) : Option FnI := obind f.body fun c => bif_ (okCode f.ntmps c && not (f.name == "runtime.NumGoroutine")) (some { results := f.results.toList, body := c }) none

noncomputable def eqmOf (P : Program) (t : Nat) : Option Nat :=
  bif_ (P.keyTypeAt 20 t && (not (P.eqGuardType P.depth t) && (match P.underlying t with | some (.array _ _) | some (.struct _) => true | _ => false))) (some 20) none
noncomputable def cxOf (P : Program) : Cx := {
  iv := .nil
  ord := .nil
  eqm := trS (eqmOf P) (List.range P.types.size) 0 .nil
  und := trS (undOf P.types) P.types.toList 0 .nil
  size := trS (fun i => some i.size) P.types.toList 0 .nil
  zero := trS zeroOf P.types.toList 0 .nil
  fns := trS fnOf P.funcs.toList 0 .nil
  glob := .nil
  ext := fun _ _ => none }
noncomputable def st0 : St := ⟨0, 0, .nil, .nil⟩
/-- The evaluation, the tables written out ahead of it. -/
noncomputable def runP (P : Program) (n : Nat) (t : Task) : Option Res :=
  trK (undOf P.types) P.types.toList 0 .nil fun u => trK (fun i => some i.size) P.types.toList 0 .nil fun s => trK zeroOf P.types.toList 0 .nil fun z => trK fnOf P.funcs.toList 0 .nil fun f =>
  trK (eqmOf P) (List.range P.types.size) 0 .nil fun q =>
    run { iv := .nil, ord := .nil, eqm := q, und := u, size := s, zero := z, fns := f, glob := .nil, ext := fun _ _ => none } n t st0
theorem runP_eq (P : Program) (n : Nat) (t : Task) : runP P n t = run (cxOf P) n t st0 := by
  simp only [runP, trK_eq]
  rfl

section
variable {P : Program} {w0 : World}
theorem info_of {t : Nat} {i : TypeInfo} (h : P.types[t]? = some i) : P.info? t = some i := by
  have hlt : t < P.types.size := (Array.getElem?_eq_some_iff.1 h).1
  show Tables.info? P.toTables t = some i
  unfold Tables.info?
  rw [if_pos hlt]; exact h

theorem cxOf_ok (P : Program) (w0 : World) : CxOK P (cxOf P) (fun _ => none) w0.heap.size w0 := by
  have hl : ∀ {t : Nat} {i : TypeInfo}, P.types.toList[t]? = some i → P.types[t]? = some i := fun h => by simpa using h
  refine ⟨fun i k lo hi h => by simp [cxOf] at h, fun i j o _ h => by simp [cxOf] at h, fun t m h => ?_, fun t d h => ?_, fun t n h => ?_, fun t z h => ?_, fun t fs h f hf => ?_, fun g t h => ?_, fun i x h => (by cases h), fun i b h => (by cases h)⟩
  · obtain ⟨i, hi, h⟩ := trS_some h
    obtain ⟨hb, h⟩ := bif_some h
    cases h
    have hit : i = t := by
      have hlt := (List.getElem?_eq_some_iff.1 hi).1
      rw [List.length_range] at hlt
      rw [List.getElem?_range hlt] at hi
      exact (Option.some.inj hi).symm
    subst hit
    simp only [Bool.and_eq_true, Bool.not_eq_true'] at hb
    exact ⟨hb.1, hb.2.1, by omega, hb.2.2⟩
  · obtain ⟨i, hi, h⟩ := trS_some h
    obtain ⟨d', hd, h⟩ := obind_inv h
    obtain ⟨_, h⟩ := bif_some h
    cases h
    have hi' := info_of (hl hi)
    unfold Program.underlying
    rw [hi']
    unfold descOf at hd
    obtain ⟨sz, dd, b, zz, rest⟩ := i
    split at hd
    · rename_i hn
      cases hu : P.types[‹TypeId›]? with
      | none => simp only [hu] at hd; cases hd
      | some k => 
        simp only [hu, Option.map_some, Option.some.injEq] at hd
        simp_all [info_of hu]
    · simp_all
  · obtain ⟨i, hi, h⟩ := trS_some h
    cases h
    exact ⟨i, info_of (hl hi), rfl⟩
  · obtain ⟨i, hi, h⟩ := trS_some h
    obtain ⟨v, hv, h⟩ := obind_inv h
    obtain ⟨hb, h⟩ := bif_some h
    simp only [Bool.and_eq_true, Nat.blt_eq, Nat.ble_eq, beq_iff, decide_eq_true_eq] at hb
    have hlen : z.length = v.cells.toList.length := (denL_length (denL_ofCells (σ := fun _ => none) (E := ⟨[], []⟩) h)).symm
    exact ⟨i, v, info_of (hl hi), hv, by rw [hlen]; exact hb.1, by rw [hlen]; exact hb.2.1, hb.2.2, fun E => denL_ofCells h⟩
  · obtain ⟨i, hi, h⟩ := trS_some h
    obtain ⟨d', hd, h⟩ := obind_inv h
    obtain ⟨hb, h⟩ := bif_some h
    cases h
    simp only [fieldsIn, List.all_eq_true] at hb
    have := hb f hf
    rw [Nat.blt_eq] at this
    exact ⟨_, info_of (Array.getElem?_eq_getElem this)⟩
  · simp [cxOf] at h

theorem cxOf_fns (hm : P.follows .mixedOrders = true) (w0 : World) : FnsOK P (cxOf P) (fun _ => none) w0.heap.size w0 := by
  refine ⟨fun f fi h => ?_, fun f args v _ h => (by cases h), hm⟩
  obtain ⟨fn, hfn, h⟩ := trS_some h
  obtain ⟨c, hc, h⟩ := obind_inv h
  obtain ⟨hb, h⟩ := bif_some h
  cases h
  simp only [Bool.and_eq_true, Bool.not_eq_true'] at hb
  exact ⟨fn, by simpa using hfn, hc, rfl, hb.2, hb.1⟩

theorem st0_rel (σ : Nat → Option Value) (w0 : World) : StRel σ w0.heap.size w0 ⟨[], []⟩ st0 w0 :=
  ⟨rfl, rfl, Nat.le_refl _, .refl _ _, fun k p h => by simp at h, fun k b h => by simp [st0] at h, fun k b h => by simp [st0] at h, fun k1 k2 b1 b2 id1 sh1 id2 sh2 h => by simp [st0] at h, fun f l h => by simp [st0] at h, fun k b h => by simp [st0] at h⟩

/-- A call that is evaluated, from nothing. -/
theorem calls_of_run {cx : Cx} {σ : Nat → Option Value} {n f : Nat} {args : List AV} {v : AV} {st' : St} {xs : List Value} (hc : CxOK P cx σ w0.heap.size w0) (hf : FnsOK P cx σ w0.heap.size w0) (h : run cx n (.call f args) st0 = some (.val v st'))
    (hargs : denL σ ⟨[], []⟩ args = some xs) {fi : FnI} (hfi : cx.fns.get f = some fi) :
    Calls P f xs.toArray w0 fun e w' => ∃ E' x, Below w0.heap.size w0 w' ∧ v.den σ E' = some x ∧ e = .returned x := by
  obtain ⟨v', st'', e, fn, hfn, hname, hcase⟩ := run_ok hc hf hf.mixed n _ _ _ h ⟨[], []⟩ w0 xs (st0_rel σ w0) hargs
  cases e
  rcases hcase with ⟨_, hcalls⟩ | ⟨E', x, w', _, _, _, hrun⟩
  · exact hcalls.mono fun e w' ⟨E', x, _, hS, hx, he⟩ => ⟨E', x, hS.below, hx, he⟩
  · obtain ⟨fn', hfn', hb, _, hn, _⟩ := hf.fns f fi hfi
    rw [hfn] at hfn'; cases hfn'
    have hn' : fn.name ≠ "runtime.NumGoroutine" := by simpa using hname
    simp [callFunc, program, Sem.run, hfn, hn', hb] at hrun

noncomputable def isTrue : Option Res → Bool
  | some (.val (.bool true) _) => true
  | _ => false
theorem isTrue_inv {r : Option Res} (h : isTrue r = true) : ∃ st, r = some (.val (.bool true) st) := by
  unfold isTrue at h
  split at h
  · exact ⟨_, rfl⟩
  · cases h
noncomputable def hasFn (P : Program) (f : Nat) : Bool := Option.rec false (fun _ => true) (obind (P.funcs[f]?) fnOf)

/-- A closed call returns true. -/
theorem closed_true (hm : P.follows .mixedOrders = true) {n f : Nat} (h : isTrue (runP P n (.call f [])) = true) (hfn : hasFn P f = true) (w0 : World) :
    Calls P f #[] w0 fun e w' => e = .returned (.bool true) ∧ Below w0.heap.size w0 w' := by
  rw [runP_eq] at h
  obtain ⟨st', h⟩ := isTrue_inv h
  have hfi : ∃ fi, (cxOf P).fns.get f = some fi := by
    unfold hasFn at hfn
    cases hp : P.funcs[f]? with
    | none => rw [hp] at hfn; cases hfn
    | some fn =>
      rw [hp] at hfn
      simp only [obind_some] at hfn
      have hlt := (Array.getElem?_eq_some_iff.1 hp).1
      show ∃ fi, (trS fnOf P.funcs.toList 0 .nil).get f = some fi
      rw [trS_get, if_pos (by simpa using hlt)]
      simp only [Nat.sub_zero, Array.getElem?_toList, hp, Option.bind_some]
      cases hq : fnOf fn with
      | none => rw [hq] at hfn; cases hfn
      | some fi => exact ⟨fi, rfl⟩
  obtain ⟨fi, hfi⟩ := hfi
  exact (calls_of_run (cxOf_ok P w0) (cxOf_fns hm w0) h rfl hfi).mono fun e w' ⟨E', x, hb, hx, he⟩ => by
    simp only [AV.den, Option.some.injEq] at hx
    subst hx
    exact ⟨he, hb⟩
end

section
open Go.ChangeShapes Go.WideShapes Go.ChangeAt
variable {P : Program} {H : Type} {enc : TypeId × Value → H}
/-- The row's end, where what was there is as it was. -/
theorem post_of_below {f : Func} {s : ChangeSpec} {apart fresh handsOn again : Bool} {W W' : World} {args : Array Value} {v : Value} {ds gs : List (DataW H)} {before pa pv : List MemPlace}
    (hW : DataW.Whole enc P f.params.toList s.vars apart W args.toList ds gs before)
    (hres : ∀ (b : Nat) (sp : Nat → Bool) (hd : Bool), DataW.TrodAll enc P W' b sp hd f.resultTypes.toList (v.resultList f.resultTypes.size) (s.fn H (ds ++ gs)).results [])
    (hargs : ∀ sp : Nat → Bool, (∀ p ∈ before, sp p.block = true) → DataW.TrodAll enc P W' 0 sp true f.params.toList args.toList (s.fn H (ds ++ gs)).args pa)
    (hvars : ∀ sp : Nat → Bool, (∀ p ∈ before, sp p.block = true) → DataW.TrodVars enc P W' sp s.vars (s.fn H (ds ++ gs)).vars pv)
    (hps : before = pa ++ pv) (hb : Below W.heap.size W W')
    (hok : ∀ (j : Nat) (t : TypeId) (r : Value), f.resultTypes[j]? = some t → (v.resultList f.resultTypes.size)[j]? = some r → Value.okWide P W' .any 0 t r) :
    s.post enc P f apart fresh handsOn again W args v W' := by
  have hold : ∀ p ∈ before, (fun b => decide (b < W.heap.size)) p.block = true := fun p hp => by simpa using hW.lt p hp
  refine ⟨ds, gs, before, [], pa, pv, hW, hres _ _ _, hargs _ hold, hvars _ hold, World.keptBut_mono (fun p hp => ⟨hp, ?_⟩) (hb.frame (· ∈ before)), fun _ => ?_⟩
  · rw [hps, List.mem_append] at hp
    exact Or.inr hp
  · have hlt := fun p hp => hW.lt p hp
    obtain ⟨_, _, _, _, _, hz, hn⟩ := hW
    refine ⟨hok, _, _, ([] ++ pa) ++ pv, ⟨[] ++ pa, pv, trodAll_append (hargs _ (fun _ _ => rfl)) (hres _ _ _), hvars _ (fun _ _ => rfl), rfl, ?_, ?_⟩, ?_⟩
    · intro b off hp
      rw [List.nil_append, ← hps] at hp
      rw [hb.frozen (p := ⟨b, off, none⟩) (hlt _ hp)]
      exact hz b off hp
    · intro ha
      have := hn ha
      rw [hps] at this
      simpa using this
    · intro p hp _
      rw [hps]
      simpa using hp
end
end Go.Sx
