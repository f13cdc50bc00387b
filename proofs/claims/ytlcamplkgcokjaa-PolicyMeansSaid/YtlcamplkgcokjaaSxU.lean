import Derived.Test.YtlcamplkgcokjaaSxR
/-! One operation that is no call: all of them. -/
namespace Go.Sx
open Go.RowKit (Below)
section
variable {P : Program} {cx : Cx} {σ : Nat → Option Value} {B : Nat} {w0 : World} {E : Env} {st : St} {w : World} {tm : Tm} {a : Act} {N : Nat} {β : Type} {k : Kt β} {r : β} {o : Oper}

theorem xNew_sound (hS : StRel σ B w0 E st w) {cs : List AV} (h : newBlk st cs (fun n st => k (.ptr (some ⟨.r n, 0⟩)) st) = some r) {y : Value} (hy : denL σ E cs = some y.cells.toList) {t : TypeId}
    (hrun : (execOp a.eval o).run P w = .ok (.value (.pointer (some ⟨w.heap.size, 0, none⟩))) (w.alloc (.cells y.cells t))) :
    ∃ v st', k v st' = some r ∧ OpOK P σ B w0 E w o a v st' := by
  obtain ⟨b, st', E', g1, g2, g3, g4, g5⟩ := newBlk_sound hS h hy (ys := y.cells) (fun i z hz => by simpa using hz) (by simp) t (fun i hi => by cases hi)
  exact ⟨_, _, g1, E', _, _, g2, g5, by simp [AV.den, g3], .inl hrun⟩

theorem wrap_of_wf {k : IntKind} {n : Int} (h : (Lit.int k n).wf = true) : k.wrap n = n := by
  simp only [Lit.wf, Bool.and_eq_true, decide_eq_true_eq] at h
  cases k <;> simp only [IntKind.min, IntKind.max, IntKind.signed, IntKind.bits] at h <;> simp only [IntKind.wrap, IntKind.signed, IntKind.bits] <;> simp at h ⊢ <;> omega
theorem xop_sound (hc : CxOK P cx σ B w0) (hS : StRel σ B w0 E st w) (hT : TmRel σ E tm a N) {op : Op} (ho : o.op = op) (h : xop op cx tm st k = some r) :
    ∃ v st', k v st' = some r ∧ OpOK P σ B w0 E w o a v st' := by
  cases op <;> simp only [xop] at h
  case move x =>
    obtain ⟨v, hv, h⟩ := out_inv h
    exact ⟨_, _, h, opok_value hS (ev_sound hT hv) (by simp [execOp, ho])⟩
  case assign x =>
    obtain ⟨v, hv, h⟩ := out_inv h
    exact ⟨_, _, h, opok_value hS (ev_sound hT hv) (by simp [execOp, ho])⟩
  case pick c x y =>
    obtain ⟨v, hv, h⟩ := obind_inv h
    have hd := ev_sound hT hv
    unfold xPick at h
    split at h
    · obtain ⟨u, hu, h⟩ := out_inv h
      simp only [AV.den, Option.some.injEq] at hd
      exact ⟨_, _, h, opok_value hS (ev_sound hT hu) (by simp [execOp, ho, ← hd, asBool])⟩
    · obtain ⟨u, hu, h⟩ := out_inv h
      simp only [AV.den, Option.some.injEq] at hd
      exact ⟨_, _, h, opok_value hS (ev_sound hT hu) (by simp [execOp, ho, ← hd, asBool])⟩
    · cases h
  case alloc t =>
    obtain ⟨z, hz, h⟩ := obind_inv h
    obtain ⟨it, zv, h1, h2, h3, _, h4, h5⟩ := hc.zero t z hz
    exact xNew_sound hS h (h5 E) (by simp [execOp, ho, Instr.alloc, zeroValue, typeInfo, h1, h2, newVar, newRow, Sem.run, program]; rfl)
  case box t x =>
    obtain ⟨v, hv, h⟩ := obind_inv h
    obtain ⟨xs, hxs, hcs⟩ := den_cells hc.sig (ev_sound hT hv)
    exact xNew_sound hS h (y := a.eval x) (by rw [hcs]; exact hxs) (by simp [execOp, ho, Instr.box, newVar, newRow]; rfl)
  case build t parts =>
    obtain ⟨z, hz, h⟩ := obind_inv h
    obtain ⟨ps, hps, h⟩ := obind_inv h
    obtain ⟨d, hd, h⟩ := obind_inv h
    exact xBuild_sound hc hS hT hz hps hd h ho
  case buildSlice t len parts =>
    obtain ⟨ps, hps, h⟩ := obind_inv h
    obtain ⟨d, hd, h⟩ := obind_inv h
    exact xBuildSlice_sound hc hS hT hps hd h ho
  case load t x =>
    obtain ⟨v, hv, h⟩ := obind_inv h
    obtain ⟨y, hy, h⟩ := obind_inv h
    obtain ⟨u, hu, h⟩ := out_inv h
    have hd := ev_sound hT hv
    rw [asPtr_inv hy] at hd
    obtain ⟨ad, had, e0⟩ := den_ptr hd
    obtain ⟨z, hz, hrun⟩ := loadVar_sound hc hS hu had
    exact ⟨_, _, h, opok_value hS hz (by simp [execOp, ho, e0, Instr.loadAt, Instr.sureAddr, hrun])⟩
  case store t x y =>
    obtain ⟨v, hv, h⟩ := obind_inv h
    obtain ⟨p, hp, h⟩ := obind_inv h
    obtain ⟨u, hu, h⟩ := obind_inv h
    have hd := ev_sound hT hv
    rw [asPtr_inv hp] at hd
    obtain ⟨ad, had, e0⟩ := den_ptr hd
    obtain ⟨st', w', h1, h2, h3⟩ := storeVar_sound hc hS h (ev_sound hT hu) had
    exact ⟨_, _, h1, E, undef, w', .refl E, h3, rfl, .inr ⟨by simp [execOp, ho, e0, Instr.storeAt, Instr.sureAddr, h2], rfl⟩⟩
  case nilCheck x =>
    obtain ⟨v, hv, h⟩ := obind_inv h
    have hd := ev_sound hT hv
    unfold xNilCheck at h
    split at h
    · obtain ⟨ad, had, e0⟩ := den_ptr hd
      exact ⟨_, _, h, opok_value hS hd (by simp [execOp, ho, e0])⟩
    · obtain ⟨xs, ys, h1, h2, e0⟩ := den_func' hd
      exact ⟨_, _, h, opok_value hS hd (by simp [execOp, ho, e0])⟩
    · cases h
  case binOp op t x y yt =>
    obtain ⟨p, hp, h⟩ := obind_inv h
    obtain ⟨q, hq, h⟩ := obind_inv h
    obtain ⟨u, hu, h⟩ := out_inv h
    obtain ⟨z, hz, hrun⟩ := binOpX_sound (w := w) hc hu (ev_sound hT hp) (ev_sound hT hq) ho
    exact ⟨_, _, h, opok_value hS hz hrun⟩
  case unOp op t x =>
    obtain ⟨v, hv, h⟩ := obind_inv h
    obtain ⟨u, hu, h⟩ := out_inv h
    have hd := ev_sound hT hv
    unfold unOp at hu
    split at hu
    · split at hu
      · cases hu
        simp only [AV.den, Option.some.injEq] at hd
        exact ⟨_, _, h, opok_value hS rfl (by simp [execOp, ho, ← hd, Op.unary])⟩
      · cases hu
    · split at hu
      · cases hu
        simp only [AV.den, Option.some.injEq] at hd
        exact ⟨_, _, h, opok_value hS rfl (by simp [execOp, ho, ← hd, Op.unary, Op.intArith, wrapF_eq, isub_eq])⟩
      · cases hu
    · cases hu
  case convert s d x =>
    obtain ⟨v, hv, h⟩ := obind_inv h
    obtain ⟨sd, hsd, h⟩ := obind_inv h
    obtain ⟨dd, hdd, h⟩ := obind_inv h
    obtain ⟨u, hu, hfin⟩ := out_inv h
    have hd := ev_sound hT hv
    have plain : convInt v dd = some u → ∃ v st', k v st' = some r ∧ OpOK P σ B w0 E w o a v st' := by
      intro hu
      unfold convInt at hu
      split at hu
      · split at hu
        · cases hu
          simp only [AV.den, Option.some.injEq] at hd
          refine ⟨_, _, hfin, opok_value hS rfl ?_⟩
          simp only [execOp, ho, ← hd, Sem.run_bind, convert, hc.und' hsd, hc.und' hdd, Result.andThen_ok]
          cases sd <;> simp [Conv.intToInt, wrapF_eq]
        · cases hu
      · cases hu
    by_cases hop : ∃ i, v = .opq i
    case neg =>
      refine plain ?_
      cases v <;> first | exact hu | exact absurd ⟨_, rfl⟩ hop
    obtain ⟨i, rfl⟩ := hop
    unfold convQ at hu
    simp only at hu
    split at hu
    · rename_i kd
      obtain ⟨p, hp, hu⟩ := obind_inv hu
      obtain ⟨hk, hu⟩ := bif_some hu
      cases hu
      obtain ⟨pk, lo, hi⟩ := p
      obtain ⟨n, h1, _, _, hw⟩ := hc.iv i pk lo hi hp
      have hk := kbeq_eq hk
      simp only at hk
      subst hk
      have hd' : σ i = some (a.eval x) := by simpa [AV.den] using hd
      rw [h1] at hd'
      have he := (Option.some.inj hd').symm
      refine ⟨_, _, hfin, opok_value hS hd ?_⟩
      have hwr : pk.wrap n = n := wrap_of_wf hw
      simp only [execOp, ho, he, Sem.run_bind, convert, hc.und' hsd, hc.und' hdd, Result.andThen_ok]
      cases sd <;> simp [Conv.intToInt, hwr]
    · cases hu
  case makeFunc fn first captured =>
    obtain ⟨p, hp, h⟩ := obind_inv h
    obtain ⟨q, hq, h⟩ := obind_inv h
    refine ⟨_, _, h, opok_value hS (x := .func fn (first.map a.eval) (captured.map a.eval)) ?_ (by simp [execOp, ho, Instr.makeFunc])⟩
    have e1 : (first.toList.map a.eval).toArray = first.map a.eval := by apply Array.ext'; simp
    have e2 : (captured.toList.map a.eval).toArray = captured.map a.eval := by apply Array.ext'; simp
    simp only [AV.den, evs_sound hT hp, evs_sound hT hq, e1, e2]
  case makeInterface t x =>
    obtain ⟨v, hv, h⟩ := obind_inv h
    obtain ⟨d, hd, h⟩ := obind_inv h
    obtain ⟨u, hu, h⟩ := out_inv h
    unfold mkIface at hu
    split at hu
    · cases hu
    · cases hu
      rename_i hne
      refine ⟨_, _, h, opok_value hS (x := .iface t (a.eval x)) (by simp [AV.den, ev_sound hT hv]) ?_⟩
      simp only [execOp, ho, Instr.makeInterface, Sem.run_bind, hc.und' hd, Result.andThen_ok]
      cases d <;> first | rfl | exact (hne _ rfl).elim
  case extract x i =>
    obtain ⟨v, hv, h⟩ := obind_inv h
    obtain ⟨u, hu, hk⟩ := out_inv h
    have hd := ev_sound hT hv
    unfold extract at hu
    split at hu
    · rename_i l
      rw [getL_eq] at hu
      simp only [AV.den, Option.map_eq_some_iff] at hd
      obtain ⟨xs, hxs, e0⟩ := hd
      obtain ⟨y, h1, h2⟩ := denL_get hxs hu
      exact ⟨_, _, hk, opok_value hS h1 (by simp [execOp, ho, ← e0, Instr.extract, h2])⟩
    · cases hu
  case fieldAddr s x f =>
    obtain ⟨v, hv, h⟩ := obind_inv h
    obtain ⟨p, hp, h⟩ := obind_inv h
    obtain ⟨d, hd, h⟩ := obind_inv h
    obtain ⟨fs, hfs, h⟩ := obind_inv h
    obtain ⟨fl, hfl, h⟩ := obind_inv h
    obtain ⟨n, hn, h⟩ := obind_inv h
    have hdv := ev_sound hT hv
    rw [asPtr_inv hp] at hdv
    obtain ⟨ad, had, e0⟩ := den_ptr hdv
    obtain ⟨fa, rfl, e1⟩ := fieldsOf_inv hfs
    rw [getL_eq, ← e1] at hfl
    have hfl' : fa[f]? = some fl := by simpa using hfl
    cases n with
    | zero => cases h
    | succ n =>
      have hadd := aden_add (b := p.b) (off := p.off) (by simpa using had) fl.offset
      refine ⟨_, _, h, opok_value hS (x := .pointer (some (ad.add fl.offset))) (by simp only [AV.den, natAdd, hadd, Option.map_some]) ?_⟩
      simp [execOp, ho, e0, Instr.fieldAt, hc.und' hd, hfl', Instr.sureAddr, fieldPlace, hc.size' hn]
  case field s x f =>
    obtain ⟨v, hv, h⟩ := obind_inv h
    obtain ⟨l, hl, h⟩ := obind_inv h
    obtain ⟨d, hd, h⟩ := obind_inv h
    obtain ⟨fs, hfs, h⟩ := obind_inv h
    obtain ⟨fl, hfl, h⟩ := obind_inv h
    obtain ⟨u, hu, hk⟩ := out_inv h
    have hdv := ev_sound hT hv
    rw [asAgg_inv hl] at hdv
    simp only [AV.den, Option.map_eq_some_iff] at hdv
    obtain ⟨xs, hxs, e0⟩ := hdv
    obtain ⟨fa, rfl, e1⟩ := fieldsOf_inv hfs
    rw [getL_eq, ← e1] at hfl
    have hfl' : fa[f]? = some fl := by simpa using hfl
    obtain ⟨y, h1, h2⟩ := part_sound hc hu hxs w
    refine ⟨_, _, hk, opok_value hS h1 ?_⟩
    simp [execOp, ho, ← e0, Instr.field, hc.und' hd, hfl', Go.asAgg, h2]
  case indexAddr t x i =>
    obtain ⟨iv, hiv, h⟩ := obind_inv h
    obtain ⟨j, hj, h⟩ := obind_inv h
    obtain ⟨v, hv, h⟩ := obind_inv h
    obtain ⟨d, hd, h⟩ := obind_inv h
    have hdi := ev_sound hT hiv
    obtain ⟨kd, e2⟩ := natOf_inv hj
    rw [e2] at hdi
    simp only [AV.den, Option.some.injEq] at hdi
    have hdv := ev_sound hT hv
    unfold xIndexAddr at h
    split at h
    · rename_i n e
      obtain ⟨p, hp, h⟩ := obind_inv h
      obtain ⟨s, hs, h⟩ := obind_inv h
      obtain ⟨hlt, h⟩ := bif_some h
      have hlt := blt_true.1 hlt
      rw [asPtr_inv hp] at hdv
      obtain ⟨ad, had, e0⟩ := den_ptr hdv
      have hadd := aden_add (b := p.b) (off := p.off) (by simpa using had) (j * s)
      refine ⟨_, _, h, opok_value hS (x := .pointer (some (ad.add (j * s)))) (by simp only [AV.den, natAdd, natMul, hadd, Option.map_some]) ?_⟩
      simp [execOp, ho, e0, ← hdi, Instr.indexAt, asIntOf, hc.und' hd, Instr.sureAddr, hlt, hc.size' hs]
    · rename_i e
      cases v with
      | slice pa n c =>
        cases pa with
        | none => cases h
        | some p =>
          obtain ⟨s, hs, h⟩ := obind_inv h
          obtain ⟨hlt, h⟩ := bif_some h
          have hlt := blt_true.1 hlt
          simp only [AV.den] at hdv
          split at hdv
          · rename_i ad cp had hcp
            split at hdv
            · rename_i hn
              have e0 : a.eval x = .slice (some ad) n cp := by simpa [eq_comm] using hdv
              have hadd := aden_add (b := p.b) (off := p.off) (by simpa using had) (j * s)
              refine ⟨_, _, h, opok_value hS (x := .pointer (some (ad.add (j * s)))) (by simp only [AV.den, natAdd, natMul, hadd, Option.map_some]) ?_⟩
              simp [execOp, ho, e0, ← hdi, Instr.indexAt, asIntOf, hc.und' hd, hlt, hc.size' hs]
            · cases hdv
          · cases hdv
      | _ => cases h
    · cases h
  case index t x i =>
    obtain ⟨iv, hiv, h⟩ := obind_inv h
    obtain ⟨j, hj, h⟩ := obind_inv h
    obtain ⟨v, hv, h⟩ := obind_inv h
    obtain ⟨d, hd, h⟩ := obind_inv h
    have hdi := ev_sound hT hiv
    obtain ⟨kd, e2⟩ := natOf_inv hj
    rw [e2] at hdi
    simp only [AV.den, Option.some.injEq] at hdi
    have hdv := ev_sound hT hv
    unfold xIndex at h
    split at h
    · rename_i n e
      obtain ⟨l, hl, h⟩ := obind_inv h
      obtain ⟨s, hs, h⟩ := obind_inv h
      obtain ⟨hlt, h⟩ := bif_some h
      have hlt := blt_true.1 hlt
      obtain ⟨u, hu, h⟩ := out_inv h
      rw [asAgg_inv hl] at hdv
      simp only [AV.den, Option.map_eq_some_iff] at hdv
      obtain ⟨xs, hxs, e0⟩ := hdv
      obtain ⟨y, h1, h2⟩ := part_sound hc hu hxs w
      refine ⟨_, _, h, opok_value hS h1 ?_⟩
      rw [natMul] at h2
      simp [execOp, ho, ← e0, ← hdi, Instr.index, asIntOf, hc.und' hd, hlt, hc.size' hs, h2]
    · cases h
  case makeSlice t l c =>
    obtain ⟨lv, hlv, h⟩ := obind_inv h
    obtain ⟨l', hl', h⟩ := obind_inv h
    obtain ⟨cv, hcv, h⟩ := obind_inv h
    obtain ⟨c', hc', h⟩ := obind_inv h
    obtain ⟨d, hd, h⟩ := obind_inv h
    have hdl := ev_sound hT hlv
    obtain ⟨kl, e1⟩ := natOf_inv hl'
    rw [e1] at hdl
    simp only [AV.den, Option.some.injEq] at hdl
    have hdc := ev_sound hT hcv
    obtain ⟨kc, e2⟩ := natOf_inv hc'
    rw [e2] at hdc
    simp only [AV.den, Option.some.injEq] at hdc
    unfold xMakeSlice at h
    split at h
    · rename_i e
      obtain ⟨z, hz, h⟩ := obind_inv h
      obtain ⟨hcond, h⟩ := bif_some h
      simp only [Bool.and_eq_true] at hcond
      have c1 := Nat.le_of_ble_eq_true hcond.1
      have c2 := Nat.le_of_ble_eq_true hcond.2
      obtain ⟨it, zv, h1, h2, h3, _, h4, h5⟩ := hc.zero e z hz
      have hzl := denL_length (h5 E)
      have hrep := denL_rep (h5 E) c'
      rw [rep_made zv.cells.toList c', hzl, ← h3] at hrep
      have hrun := run_make (P := P) w t e it zv (hc.und t _ hd) h1 h2 kl kc l' c' (by omega) (by omega) (by
        have : it.bytes * c' ≤ 1048576 * 65536 := Nat.mul_le_mul h4 c2
        have : ((it.bytes * c' : Nat) : Int) ≤ 281474976710656 := by omega
        simpa using this) (by omega)
      simp only [Int.toNat_natCast] at hrun
      obtain ⟨b, st', E', g1, g2, g3, g4, g5⟩ := newBlk_sound hS h hrep (ys := madeCells zv.cells (c' * it.size)) (fun i z hz => by simpa using hz) (by simp) e (fun i hi => by cases hi)
      refine ⟨_, _, g1, E', .slice (some ⟨w.heap.size, 0, none⟩) l' c', _, g2, g5, by simp [AV.den, g3, cden, c1], .inl ?_⟩
      simp [execOp, ho, ← hdl, ← hdc, hrun]
    · cases h
  case slice t x lo hi mx =>
    cases mx with
    | some _ => cases h
    | none =>
      obtain ⟨v, hv, h⟩ := obind_inv h
      obtain ⟨d, hd, h⟩ := obind_inv h
      exact xSlice_sound hc hS hT hv hd h ho
  all_goals cases h
end
end Go.Sx
