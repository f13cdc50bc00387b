import Derived.Test.YtjpohnhgajjndaaSyJ
/-! Statements, loops over functions, calls. -/
namespace Go.Sy
section
variable {X : Tabs} {K : Nat → Prop} {w0 : World} {E : Env} {st : St} {w : World} {Θ : Pred} {R : List Back} {tm : Tm} {rec : Rec} {N : Nat} {ds : List Nat} {a : Act} {k : Res → VC} {rd r : Option Nat} {fid : FuncId}

/-! ### A round -/
theorem parK_inv : ∀ {ps : List Px} {vs : List AV} {tm : Tm} {F : Tm → VC}, (parK ps vs tm F).holds Θ E.va R → ∀ {ts : List Nat} {xs : List Value} {tmps : Array Value}, ps = ts.map pth → denL E vs = some xs → SlotRel E tm tmps → (∀ t ∈ ts, t < tmps.size) →
    ∃ tm', (F tm').holds Θ E.va R ∧ xs.length = ts.length ∧ SlotRel E tm' ((ts.zip xs).foldl (fun tmps (p : Nat × Value) => tmps.setIfInBounds p.1 p.2) tmps) ∧ ((ts.zip xs).foldl (fun tmps (p : Nat × Value) => tmps.setIfInBounds p.1 p.2) tmps).size = tmps.size
  | [], [], tm, F, h, ts, xs, tmps, hts, hx, hS, _ => by
    have : ts = [] := by cases ts <;> first | rfl | cases hts
    subst this
    rw [denL_nil.1 hx]
    exact ⟨tm, h, rfl, hS, rfl⟩
  | [], _ :: _, tm, F, h, _, _, _, _, _, _, _ => h.elim
  | p :: ps, [], tm, F, h, _, _, _, _, _, _, _ => h.elim
  | p :: ps, v :: vs, tm, F, h, ts, xs, tmps, hts, hx, hS, hlt => by
    obtain ⟨x, xs', hx1, hx2, rfl⟩ := denL_cons.1 hx
    cases ts with
    | nil => cases hts
    | cons t ts =>
      simp only [List.map_cons, List.cons.injEq] at hts
      obtain ⟨rfl, rfl⟩ := hts
      have h : (forceV v fun v => Tr.setP (pth t) tm (some v) fun tm => parK (ts.map pth) vs tm F).holds Θ E.va R := h
      rw [forceV_eq, Tr.setP_eq] at h
      have ht := hlt t (by simp)
      obtain ⟨tm', g1, g2, g3, g4⟩ := parK_inv h rfl hx2 (hS.put ht hx1) (fun t' ht' => by simpa using hlt t' (List.mem_cons_of_mem _ ht'))
      exact ⟨tm', g1, by simp [g2], g3, by simpa using g4⟩
theorem loop_obj {l id : Nat} {s : LSt} {p : Option BC} {f : FuncId} {tm : Tm} {ps : List Px} {x b : BC} {d : Nat} (hS : StRel X K w0 E st w) (h : st.x.objs.get l = some (.loop s p f tm ps x b d)) (hm : E.m[l]? = some (some (id, 0))) :
    ∃ L, w.heap[id]? = some (.loop L) ∧ ObRel X E (.loop s p f tm ps x b d) (.loop L) := by
  obtain ⟨ob, h1, h2⟩ := obj_at hS h hm
  cases ob <;> simp only [ObRel] at h2
  exact ⟨_, h1, h2⟩
theorem exJump_rel (e : Ex) : match toExit e with
    | .normal => exJump e = none
    | .ret => ∃ c, exJump e = some c ∧ jumpRel (some c) (some .ret)
    | .exit i => ∃ c, exJump e = some c ∧ jumpRel (some c) (some (.exit i))
    | .goto i => ∃ c, exJump e = some c ∧ jumpRel (some c) (some (.goto i))
    | _ => False := by
  cases e with
  | normal => rfl
  | ret => exact ⟨_, rfl, .inl ⟨rfl, rfl⟩⟩
  | exit i => exact ⟨_, rfl, .inr (.inl ⟨i, rfl, rfl⟩)⟩
  | goto i => exact ⟨_, rfl, .inr (.inr ⟨i, rfl, rfl⟩)⟩
theorem round_ok (hr : RecOK X K w0 Θ rec) {l id : Nat} {args : List AV} {xs : List Value} (hS : StRel X K w0 E st w) (hm : E.m[l]? = some (some (id, 0))) (hx : denL E args = some xs) (h : (stRound rec l args st k (st.x.objs.get l)).holds Θ E.va R) :
    OpRes X.P (OutV X K w0 Θ R E st k) ((Instr.yield id xs.toArray).run X.P w) := by
  cases ho : st.x.objs.get l with
  | none => rw [ho] at h; exact h.elim
  | some ob =>
    rw [ho] at h
    unfold stRound at h
    split at h
    · rename_i s p f tm ps x b d e
      cases e
      obtain ⟨L, hh, hrel⟩ := loop_obj hS ho hm
      obtain ⟨h1, h2, h3, h4, h5, h6, h7, h8, h9, h10⟩ := hrel
      obtain ⟨tm', g1, g2, g3, g4⟩ := parK_inv h h4 hx h3 h9
      have hsz : xs.toArray.size = L.params.size := by simpa using g2
      rw [run_yield hh hsz]
      have hfold : (L.params.zip xs.toArray).foldl (fun tmps (x : Tmp × Value) => tmps.setIfInBounds x.1 x.2) L.tmps = (L.params.toList.zip xs).foldl (fun tmps (p : Nat × Value) => tmps.setIfInBounds p.1 p.2) L.tmps := by
        rw [← Array.foldl_toList, Array.toList_zip]
      show RoundIn (FW none) 0 X.P id L.fn _ L.assign L.body w _
      rw [hfold]
      refine roundIn_of_wpIn (FW_fn _ _) ?_
      rw [FW_in]
      have hT : TmRel E tm' [] { tmps := (L.params.toList.zip xs).foldl (fun tmps (p : Nat × Value) => tmps.setIfInBounds p.1 p.2) L.tmps, defers := [] } L.tmps.size := ⟨g4, trivial, g3⟩
      refine wpIn_mono (hr.code (r := some id) (rd := some l) h5 h7 hm hS hT g1) fun e a' w' hq => ?_
      obtain ⟨ex, tm2, ds2, st2, E2, R2, rfl, q1, q2, q3, q4, q5, q6⟩ := hq
      unfold beginRound at q2
      split at q2
      · rename_i tm3 st3 er
        cases er
        split at q2
        · rename_i p' f' t' ps' a2 b' d' ho2
          rw [withO_eq] at q2
          have hm2 := q3.m _ _ hm
          obtain ⟨L2, hh2, hrel2⟩ := loop_obj q4 ho2 hm2
          have hob2 := hrel2
          obtain ⟨k1, k2, k3⟩ := hrel2
          have hready : L2.state = .ready := k1
          have hbusy : ObRel X E2 (.loop .busy p' f' t' ps' a2 b' d') (.loop { L2 with state := .busy }) := ⟨rfl, k2, k3⟩
          obtain ⟨s1, s2⟩ := q4.putObj ho2 hm2 hh2 hob2 hbusy
          refine ⟨_, run_beginRound hh2 hready, ?_⟩
          refine wpIn_mono (hr.code (r := some id) (rd := some l) h6 h8 hm2 s1 q6 q2) fun e a'' w'' hq' => ?_
          obtain ⟨ex2, tm4, ds4, st4, E4, R4, rfl, p1, p2, p3, p4, p5, p6⟩ := hq'
          unfold endRound at p2
          split at p2
          · rename_i e5 tm5 ds5 st5 er5
            cases er5
            split at p2
            · rename_i s6 p6' f6 t6 ps6 a6 b6 d6 ho6
              have hm6 := p3.m _ _ hm2
              obtain ⟨L6, hh6, hrel6⟩ := loop_obj p4 ho6 hm6
              have hob6 := hrel6
              obtain ⟨_, _, k6⟩ := hrel6
              have fin : ∀ (jump : Option Code) (bj : Option BC) (s : LSt) (bv : Bool), jumpRel bj jump → lstOf s = (if jump.isNone then .ready else .done) → jump.isNone = bv → (k (.val (.bool bv) (st4.setO l (.loop s bj f6 t6 ps6 a6 b6 d6)))).holds Θ E4.va R4 →
                  ∃ v w', (Instr.endRound id jump).run X.P w'' = .ok v w' ∧ retOnly (OutV X K w0 Θ R E st k) (.returned v) w' := by
                intro jump bj s bv hj hs hb hk
                have hnew : ObRel X E4 (.loop s bj f6 t6 ps6 a6 b6 d6) (.loop { L6 with state := if jump.isNone then .ready else .done, pending := jump }) := ⟨hs.symm, hj, k6⟩
                obtain ⟨u1, u2⟩ := p4.putObj ho6 hm6 hh6 hob6 hnew
                refine ⟨_, _, run_endRound jump hh6, _, _, E4, R4, q1.trans p1, hk, q3.trans p3, u1, (q5.trans s2).trans (p5.trans u2), by rw [hb]; rfl⟩
              have hj := exJump_rel ex2
              cases ex2 with
              | normal =>
                have p2 : (withO st4 l (.loop .ready none f6 t6 ps6 a6 b6 d6) fun st => k (.val (.bool true) st)).holds Θ E4.va R4 := p2
                rw [withO_eq] at p2
                exact fin none none .ready true trivial rfl rfl p2
              | ret =>
                have p2 : (withO st4 l (.loop .done (some .ret) f6 t6 ps6 a6 b6 d6) fun st => k (.val (.bool false) st)).holds Θ E4.va R4 := p2
                rw [withO_eq] at p2
                exact fin (some .ret) (some .ret) .done false (.inl ⟨rfl, rfl⟩) rfl rfl p2
              | exit i =>
                have p2 : (withO st4 l (.loop .done (some (.exit i)) f6 t6 ps6 a6 b6 d6) fun st => k (.val (.bool false) st)).holds Θ E4.va R4 := p2
                rw [withO_eq] at p2
                exact fin (some (.exit i)) (some (.exit i)) .done false (.inr (.inl ⟨i, rfl, rfl⟩)) rfl rfl p2
              | goto i =>
                have p2 : (withO st4 l (.loop .done (some (.goto i)) f6 t6 ps6 a6 b6 d6) fun st => k (.val (.bool false) st)).holds Θ E4.va R4 := p2
                rw [withO_eq] at p2
                exact fin (some (.goto i)) (some (.goto i)) .done false (.inr (.inr ⟨i, rfl, rfl⟩)) rfl rfl p2
            · exact p2.elim
          · rename_i hno; exact absurd rfl (hno _ _ _ _)
        · exact q2.elim
      · exact q2.elim
    · exact h.elim
end
end Go.Sy
