import Derived.Test.YtlcamplkgcokjaaSxF
/-! Statements whose order is drawn. -/
namespace Go.Sx
open Go.RowKit (Below)
section
variable {P : Program} {cx : Cx} {σ : Nat → Option Value} {B : Nat} {w0 : World} {E : Env} {st : St} {w : World} {tm : Tm} {a : Act} {N : Nat} {rec : Rec} {r : Res}
variable {ops : Array Oper} {p : Plan} {T : Nat → Tm} {S : Nat → St} {V : Nat → AV} {H : List St} {lds : List Ld}

theorem binds_any (e : Edge) : Region.binds .any e = bindsE e := by
  unfold Region.binds bindsE
  split <;> simp_all <;> rfl
theorem getD_set {l : Array Bool} {i : Nat} (hi : i < l.size) (j : Nat) : (l.setIfInBounds i true).getD j false = if j = i then true else l.getD j false := by
  simp only [Array.getD_eq_getD_getElem?, Array.getElem?_setIfInBounds]
  by_cases e : i = j
  · subst e; simp [hi]
  · rw [if_neg e, if_neg (fun h => e h.symm)]
theorem getD_same {l : Array Bool} {i : Nat} (hi : i < l.size) : l.getD i true = l.getD i false := by simp [Array.getD, hi]

theorem mem_ready {listed : Array Bool} {i : Nat} (hs : listed.size = ops.size) : i ∈ Region.ready .any ops listed ↔ ∃ o, ops.toList[i]? = some o ∧ listed.getD i false = false ∧ ∀ e ∈ o.after.toList, bindsE e = true → listed.getD e.on false = true := by
  unfold Region.ready
  simp only [List.mem_filter, List.mem_range, Bool.and_eq_true, Bool.not_eq_true', Array.getElem?_toList]
  constructor
  · rintro ⟨h1, h2, h3⟩
    have ho : ops[i]? = some ops[i] := by simp [h1]
    rw [ho] at h3
    refine ⟨_, ho, by rw [← getD_same (by omega)]; exact h2, fun e he hb => ?_⟩
    simp only [Option.map_some, Option.getD_some, Array.all_eq_true'] at h3
    have := h3 e (by simpa using he)
    rw [binds_any, hb] at this
    simpa using this
  · rintro ⟨o, ho, h2, h3⟩
    have h1 : i < ops.size := by
      rcases Nat.lt_or_ge i ops.size with c | c
      · exact c
      · rw [Array.getElem?_eq_none c] at ho; cases ho
    refine ⟨h1, by rw [getD_same (by omega)]; exact h2, ?_⟩
    rw [ho]
    simp only [Option.map_some, Option.getD_some, Array.all_eq_true']
    intro e he
    rw [binds_any]
    cases hb : bindsE e with
    | false => rfl
    | true => simp [h3 e (by simpa using he) hb]

theorem all_listed (hp : PlanOK ops.toList p) {listed : Array Bool} (hs : listed.size = ops.size) (h : Region.ready .any ops listed = []) : ∀ i, i < ops.size → listed.getD i false = true := by
  intro i
  induction i using Nat.strongRecOn with
  | _ i ih =>
    intro hi
    cases hL : listed.getD i false with
    | true => rfl
    | false =>
      have ho : ops.toList[i]? = some ops[i] := by simp [hi]
      have : i ∈ Region.ready .any ops listed := (mem_ready hs).2 ⟨_, ho, hL, fun e he hb => by
        have := hp.edge i _ ho e he hb
        exact ih e.on this (by omega)⟩
      rw [h] at this; cases this

theorem stands_end (hsh : DShared P cx σ B w0 rec ops N p T S V H lds) {L : Nat → Bool} {s : Nat} (h : Stands P σ B w0 ops N p T V H L s st E w a) (hall : ∀ i, i < ops.toList.length → L i = true) :
    StRel σ B w0 E (S ops.toList.length) w ∧ TmRel σ E (T ops.toList.length) a N := by
  have hs : s = cnt ops.toList ops.toList.length := by
    rcases Nat.lt_or_ge s (cnt ops.toList ops.toList.length) with c | c
    · have hlt : s < (effsOf ops.toList 0).length := by rw [(effsOf_spec _ 0).1]; exact c
      obtain ⟨j, o, k1, k2, k3, k4⟩ := (effsOf_spec ops.toList 0).2.2 s _ (List.getElem?_eq_getElem hlt)
      have := (h.effs j o k2 k3).1 (hall j (List.getElem?_eq_some_iff.1 k2).1)
      omega
    · have := h.le; omega
  have h1 := hsh.hist ops.toList.length (Nat.le_refl _)
  rw [← hs, h.at_] at h1
  rw [← Option.some.inj h1]
  refine ⟨h.rel, ?_⟩
  have := h.tmps
  rw [cur_all (T := T) (n := ops.toList.length) rfl (fun j hj => ?_) (Nat.le_refl _) hall] at this
  · exact this
  · have hj' : ops.toList[j]? = some ops.toList[j] := List.getElem?_eq_getElem hj
    rw [(hsh.step j _ hj').1, hj']
    rfl

theorem stands_next (hsh : DShared P cx σ B w0 rec ops N p T S V H lds) {listed : Array Bool} {s : Nat} (hsz : listed.size = ops.size) {E' : Env} {w' : World} {x : Value} {st' : St} (h : Stands P σ B w0 ops N p T V H (fun i => listed.getD i false) s st E w a) {i : Nat} {o : Oper} (ho : ops.toList[i]? = some o) (hi : listed.getD i false = false)
    (hr : ∀ e ∈ o.after.toList, bindsE e = true → listed.getD e.on false = true) (heff : isEff o.op = true → s = cnt ops.toList i) (hat : H[s + (if isEff o.op = true then 1 else 0)]? = some st') (hE : E.Le E') (hS : StRel σ B w0 E' st' w') (hx : (V i).den σ E' = some x) :
    Stands P σ B w0 ops N p T V H (fun j => (listed.setIfInBounds i true).getD j false) (s + (if isEff o.op = true then 1 else 0)) st' E' w' (a.put o.dst x) := by
  have hn : i < ops.toList.length := (List.getElem?_eq_some_iff.1 ho).1
  have hil : i < listed.size := by rw [hsz]; simpa using hn
  have hp := hsh.plan
  refine ⟨?_, ?_, ?_, hat, hS, ?_⟩
  · intro j oj hj hLj e he hb
    simp only [getD_set hil] at hLj ⊢
    by_cases c : e.on = i
    · rw [if_pos c]
    · rw [if_neg c]
      by_cases d : j = i
      · subst d
        rw [ho] at hj
        cases hj
        exact hr e he hb
      · rw [if_neg d] at hLj
        exact h.closed j oj hj hLj e he hb
  · by_cases he : isEff o.op = true
    · rw [if_pos he, heff he]
      exact cnt_lt ho he hn (Nat.le_refl _)
    · rw [if_neg he]; exact h.le
  · intro j oj hj hje
    simp only [getD_set hil]
    by_cases d : j = i
    · subst d
      rw [ho] at hj
      cases hj
      rw [if_pos rfl, if_pos hje, heff hje]
      simp
    · rw [if_neg d, h.effs j oj hj hje]
      by_cases he : isEff o.op = true
      · rw [if_pos he]
        have hne : cnt ops.toList j ≠ cnt ops.toList i := fun hc => d (cnt_inj hj hje ho he hc)
        have := heff he
        omega
      · rw [if_neg he, Nat.add_zero]
  · refine TmRel.congr (fun t => ?_) ((h.tmps.mono hE).putD (hsh.dst o (List.mem_of_getElem? ho)) hx)
    have hdst : (ops.toList[i]?).bind (·.dst) = o.dst := by rw [ho]; rfl
    rw [← hdst]
    refine cur_put (dst := fun i => (ops.toList[i]?).bind (·.dst)) hi (fun j => getD_set hil j) hn fun j h1 h2 h3 h4 => ?_
    have hj : ops.toList[j]? = some ops.toList[j] := List.getElem?_eq_getElem h2
    rw [hdst] at h3 h4
    rw [hj] at h3
    have hd : t ∈ namesOf ops.toList o := by simp [namesOf, h4]
    have hb := (hp.slots i j o _ t ho hj (h3.trans h4) hd).2 h1
    cases hL : listed.getD j false with
    | false => rfl
    | true =>
      have := closed_bef (L := fun i => listed.getD i false) hp h.closed hj hL hb
      rw [hi] at this; cases this

theorem wpAny_draw (hc : CxOK P cx σ B w0) (hr : RecOK P σ B w0 rec) (hsh : DShared P cx σ B w0 rec ops N p T S V H lds) {E : Env} : ∀ (fuel : Nat) (listed : Array Bool) (a : Act) (w : World) (E' : Env) (s : Nat) (st : St) (unl : List Nat),
    Stands P σ B w0 ops N p T V H (fun i => listed.getD i false) s st E' w a → E.Le E' → listed.size = ops.size → unl.length ≤ fuel → (∀ i, i < ops.size → listed.getD i false = false → i ∈ unl) →
    wpAny P .any ops (CodePost σ B w0 E N .normal (T ops.toList.length) (S ops.toList.length)) fuel listed a w
  | 0, listed, a, w, E', s, st, unl, h, hE, hsz, hf, hu => by
    have hnil : unl = [] := List.length_eq_zero_iff.1 (by omega)
    subst hnil
    have hall : ∀ i, i < ops.size → listed.getD i false = true := fun i hi => by
      cases hL : listed.getD i false with
      | true => rfl
      | false => cases hu i hi hL
    refine ⟨?_, ?_⟩
    · cases hrd : Region.ready .any ops listed with
      | nil => rfl
      | cons x l =>
        obtain ⟨o, ho, h1, _⟩ := (mem_ready hsz).1 (by rw [hrd]; simp : x ∈ Region.ready .any ops listed)
        have := hall x (by have := (List.getElem?_eq_some_iff.1 ho).1; simpa using this)
        rw [h1] at this; cases this
    · obtain ⟨g1, g2⟩ := stands_end hsh h fun i hi => hall i (by simpa using hi)
      exact ⟨E', hE, g1, g2, rfl⟩
  | fuel + 1, listed, a, w, E', s, st, unl, h, hE, hsz, hf, hu => by
    refine ⟨fun hrd => ?_, fun i hir => ?_⟩
    · obtain ⟨g1, g2⟩ := stands_end hsh h fun i hi => all_listed hsh.plan hsz hrd i (by simpa using hi)
      exact ⟨E', hE, g1, g2, rfl⟩
    · obtain ⟨o, ho, hi, hre⟩ := (mem_ready hsz).1 hir
      have hn : i < ops.size := by have := (List.getElem?_eq_some_iff.1 ho).1; simpa using this
      obtain ⟨h1, h2, h3, h4⟩ := stands_step hsh h ho hi hre
      have hiu := hu i hn hi
      have hpos : 0 < unl.length := List.length_pos_of_mem hiu
      have go : ∀ (E2 : Env) (x : Value) (w2 : World) (st2 : St), E'.Le E2 → StRel σ B w0 E2 st2 w2 → H[s + (if isEff o.op = true then 1 else 0)]? = some st2 → (V i).den σ E2 = some x →
          wpAny P .any ops (CodePost σ B w0 E N .normal (T ops.toList.length) (S ops.toList.length)) fuel (listed.setIfInBounds i true) (a.put o.dst x) w2 := by
        intro E2 x w2 st2 k1 k2 k3 k4
        refine wpAny_draw hc hr hsh fuel _ _ _ E2 _ st2 (unl.erase i) (stands_next hsh hsz h ho hi hre (fun he => (h2 he).1) k3 k1 k2 k4) (hE.trans k1) (by simpa using hsz) (by rw [List.length_erase_of_mem hiu]; omega) fun j hj hL => ?_
        rw [getD_set (by omega)] at hL
        by_cases e : j = i
        · rw [if_pos e] at hL; cases hL
        · rw [if_neg e] at hL
          exact (List.mem_erase_of_ne e).2 (hu j hj hL)
      have ho' : ops[i]? = some o := by simpa using ho
      have hw : Region.wanted o (yielded ops a.tmps) = wanted ops.toList (T i) o.guard := by
        rw [wanted_sound hc.sigb h.tmps ops o]
        exact wanted_of_slots h1
      unfold Go.wpOp
      simp only [ho', hw]
      cases hwv : wanted ops.toList (T i) o.guard with
      | true =>
        simp only [if_true]
        obtain ⟨st2, k1, k2⟩ := h3 hwv
        have hcg : opK o.op cx rec (curT (fun i => (ops.toList[i]?).bind (·.dst)) V (T 0) (fun i => listed.getD i false) ops.toList.length) st (fun v st => some (.val v st)) = some (.val (V i) st2) := by
          rw [opK_congr (tm' := T i) (ev_of_slots fun t ht => h1 t (by simp [namesOf, ht])), k2]
        obtain ⟨v, st3, e, hO⟩ := opK_sound hc hr h.rel h.tmps rfl hcg
        cases e
        exact .inl (hO.2 _ _ fun E2 x w2 g1 g2 g3 => go E2 x w2 _ g1 g2 k1 g3)
      | false =>
        simp only [Bool.false_eq_true, if_false]
        obtain ⟨k1, k2⟩ := h4 hwv
        exact go E' undef w st (.refl E') h.rel k2 (by rw [k1]; exact den_undef)

theorem StRel.drawn (h : StRel σ B w0 E st w) (n : Nat) : StRel σ B w0 E st { w with drawn := n } :=
  ⟨h.n_eq, h.c_eq, h.base, ⟨h.below.os, h.below.tape, h.below.output, h.below.size, h.below.block⟩, h.ids, h.lt, h.blks, h.fams, h.livelt, h.lives⟩

theorem draw_ok (hc : CxOK P cx σ B w0) (hm : P.follows .mixedOrders = true) (rec : Rec) (hr : RecOK P σ B w0 rec) : DrawOK P cx σ B w0 rec := by
  intro id ops tm st r N E w a hd h hS hT
  obtain ⟨p, hp, h⟩ := obind_inv h
  obtain ⟨T, S, V, more, lds', g1, g2, g3, g4, g5, g6, _, g8⟩ := drawL_trace ops.toList p ops.toList 0 tm st [] [] h
  have hsh : DShared P cx σ B w0 rec ops N p T S V ([st].reverse ++ more) lds' :=
    ⟨fun o ho => List.all_eq_true.1 hd o ho, planOf_ok hp, g3, fun j hj => by simpa using g6 j hj, g5, fun j o t x ho hw hop => by simpa using g8 j o t x ho hw hop⟩
  refine ⟨.normal, _, _, g4, wp_region_any hm ?_⟩
  have hrep : ∀ i, (Array.replicate ops.size false).getD i false = false := fun i => by simp [Array.getD_eq_getD_getElem?, Array.getElem?_replicate]; split <;> rfl
  refine wpAny_draw hc hr hsh ops.size _ a _ E 0 st (List.range ops.size) ?_ (.refl E) (by simp) (by simp) (fun i hi _ => by simpa using hi)
  refine ⟨fun i o _ hL => ?_, Nat.zero_le _, fun i o _ _ => ?_, by simp, hS.drawn _, ?_⟩
  · simp only [hrep] at hL; cases hL
  · simp only [hrep]; simp
  · refine TmRel.congr (fun t => ?_) hT
    rw [cur_le (i := 0) (Nat.zero_le _) fun j _ _ _ => hrep j]
    show slot (T 0) t = _
    rw [g1]

/-- The evaluator's answers hold, for each order. -/
theorem run_ok (hc : CxOK P cx σ B w0) (hf : FnsOK P cx σ B w0) (hm : P.follows .mixedOrders = true) (n : Nat) : RecOK P σ B w0 (run cx n) :=
  run_sound hc hf (draw_ok hc hm) n
end
end Go.Sx
