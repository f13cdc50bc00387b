import Derived.Test.YtlcamplkgcokjaaSxQ
/-! Slices, addresses; one operation. -/
namespace Go.Sx
open Go.RowKit (Below)
section
variable {P : Program} {cx : Cx} {σ : Nat → Option Value} {B : Nat} {w0 : World} {E : Env} {st : St} {w : World} {tm : Tm} {a : Act} {N : Nat} {β : Type} {k : Kt β} {r : β} {o : Oper}

theorem aden_add {b : Bid} {off : Nat} {ad : Addr} (h : aden E ⟨b, off⟩ = some ad) (n : Nat) : aden E ⟨b, off + n⟩ = some (ad.add n) := by
  cases b with
  | g g => simp only [aden, Option.some.injEq] at h ⊢; subst h; rw [add_eq]
  | r k =>
    simp only [aden] at h ⊢
    split at h
    · rename_i p hp
      cases h
      rw [add_eq, Nat.add_right_comm off p.2 n]
    · cases h
theorem natAdd (a b : Nat) : Nat.add a b = a + b := rfl
theorem natMul (a b : Nat) : Nat.mul a b = a * b := rfl
theorem natSub (a b : Nat) : Nat.sub a b = a - b := rfl

theorem range0 {α : Type} (f : Nat → α) : (Array.range 0).map f = #[] := by apply Array.ext'; simp [Array.toList_range]
theorem run_buildSlice0 (w : World) (t e : TypeId) (parts : Array (Nat × Value)) (cells : Array Value) (ie : TypeInfo) (hu : P.underlying t = some (.slice e)) (hie : P.info? e = some ie)
    (h : Instr.fill (fun i => some (i * ie.size, ie.size)) #[] parts.toList = some cells) :
    (Instr.buildSlice t 0 parts).run P w = .ok (.slice (some ⟨w.heap.size, 0, none⟩) 0 0) (w.alloc (.cells cells e)) := by
  have e0 : Array.map (fun _ => (default : Value)) (Array.range 0) = #[] := range0 _
  simp [Instr.buildSlice, run_underlying hu, sizeOf, typeInfo, hie, newRow]
  rw [e0, h]
  simp
theorem run_buildSliceAny (w : World) (t e : TypeId) (len : Nat) (parts : Array (Nat × Value)) (cells : Array Value) (ie : TypeInfo) (z : Value) (hu : P.underlying t = some (.slice e)) (hie : P.info? e = some ie) (hz : ie.zero = some z) (hsmall : len * ie.size ≤ 65536) (hpos : 0 < ie.size)
    (h : Instr.fill (fun i => some (i * ie.size, ie.size)) ((Array.range (len * ie.size)).map (z.cells[· % z.cells.size]!)) parts.toList = some cells) :
    (Instr.buildSlice t len parts).run P w = .ok (.slice (some ⟨w.heap.size, 0, none⟩) len len) (w.alloc (.cells cells e)) := by
  rcases Nat.eq_zero_or_pos len with c | c
  · subst c
    refine run_buildSlice0 w t e parts cells ie hu hie ?_
    rw [Nat.zero_mul, range0] at h
    exact h
  · have := Nat.mul_pos c hpos
    exact run_buildSlice w t e len parts cells ie z hu hie hz (by omega) (by omega) h

theorem xBuildSlice_sound (hc : CxOK P cx σ B w0) (hS : StRel σ B w0 E st w) (hT : TmRel σ E tm a N) {t : TypeId} {len : Nat} {parts : Array (Nat × Operand)} {ps : List (Nat × AV)} {d : TypeDesc}
    (hps : evParts tm parts.toList = some ps) (hd : cx.und.get t = some d) (h : xBuildSlice cx st k len ps d = some r) (ho : o.op = .buildSlice t len parts) :
    ∃ v st', k v st' = some r ∧ OpOK P σ B w0 E w o a v st' := by
  obtain ⟨hl, hq⟩ := parts_of hT hps
  have hu := hc.und t d hd
  have hex : (execOp a.eval o).run P w = ((Instr.buildSlice t len (parts.map fun (i, x) => (i, a.eval x))) >>= fun v => pure (Next.value v) : Sem Next).run P w := by simp only [execOp, ho]
  unfold xBuildSlice at h
  split at h
  · rename_i e
    obtain ⟨n, hn, h⟩ := obind_inv h
    obtain ⟨z, hz, h⟩ := obind_inv h
    obtain ⟨l, hb, h⟩ := obind_inv h
    obtain ⟨hcond, h⟩ := bif_some h
    have c1 := Nat.le_of_ble_eq_true hcond
    rw [natMul] at c1
    obtain ⟨ie, hie, hne⟩ := hc.size _ _ hn
    obtain ⟨it, zv, h1, h2, h3, hzp, h4, h5⟩ := hc.zero e z hz
    rw [hie] at h1; cases h1
    have hzl := denL_length (h5 E)
    have hzs : zv.cells.size = n := by rw [← hne, h3, ← hzl]; simp
    have hrep := denL_rep (h5 E) len
    rw [rep_made zv.cells.toList len] at hrep
    obtain ⟨xs', e1, e2⟩ := fill_sound (E := E) hc.sig (place' := fun i => some (i * ie.size, ie.size)) (fun i p hp => by rw [hne]; exact hp) hb hrep hl hq
    have hrun : (Instr.buildSlice t len (parts.map fun (i, x) => (i, a.eval x))).run P w = .ok (.slice (some ⟨w.heap.size, 0, none⟩) len len) (w.alloc (.cells xs'.toArray e)) := by
      have heq : (Array.range (len * ie.size)).map (zv.cells[· % zv.cells.size]!) = (madeCells zv.cells.toList.toArray (len * zv.cells.toList.length)).toList.toArray := by
        apply Array.ext'; simp [madeCells, hzs, hne]
      exact run_buildSliceAny (P := P) w t e len _ xs'.toArray ie zv hu hie h2 (by rw [hne]; exact c1) (by rw [h3]; exact hzp) (by rw [heq]; exact e2)
    obtain ⟨b, st', E', g1, g2, g3, g4, g5⟩ := newBlk_sound hS h e1 (ys := xs'.toArray) (fun i y hy => by simpa using hy) (by simp) e (fun i hi => by cases hi)
    refine ⟨_, _, g1, E', .slice (some ⟨w.heap.size, 0, none⟩) len len, _, g2, g5, ?_, .inl ?_⟩
    · simp [AV.den, g3, cden]
    · rw [hex]; simp [hrun]
  · cases h

theorem bound_inv (hT : TmRel σ E tm a N) {d : Nat} {x : Option Operand} {n : Nat} (h : bound tm d x = some n) : (x = none ∧ n = d) ∨ ∃ y kd, x = some y ∧ a.eval y = .int kd n := by
  cases x with
  | none => simp only [bound, Option.some.injEq] at h; exact .inl ⟨rfl, h.symm⟩
  | some y =>
    obtain ⟨v, hv, h⟩ := obind_inv h
    obtain ⟨kd, rfl⟩ := natOf_inv h
    have := ev_sound hT hv
    simp only [AV.den, Option.some.injEq] at this
    exact .inr ⟨y, kd, rfl, this.symm⟩
theorem bounds_sound (hT : TmRel σ E tm a N) {b : Bool} {n cap l h : Nat} {lo hi : Option Operand} (hl : bound tm 0 lo = some l) (hh : bound tm n hi = some h) (h1 : l ≤ h) (h2 : h ≤ cap) (w : World) :
    (Instr.sliceBounds b n cap (lo.map a.eval) (hi.map a.eval) none).run P w = .ok (l, h, cap) w := by
  rcases bound_inv hT hl with ⟨rfl, rfl⟩ | ⟨y, kd, rfl, hy⟩ <;> rcases bound_inv hT hh with ⟨rfl, rfl⟩ | ⟨z, kz, rfl, hz⟩
  · simp [Instr.sliceBounds]
  · simp [Instr.sliceBounds, Instr.sliceBound, asIntOf, hz, h2]
  · simp [Instr.sliceBounds, Instr.sliceBound, asIntOf, hy, h1]
  · simp [Instr.sliceBounds, Instr.sliceBound, asIntOf, hy, hz, h1, h2]

theorem xSlice_sound (hc : CxOK P cx σ B w0) (hS : StRel σ B w0 E st w) (hT : TmRel σ E tm a N) {t : TypeId} {xo : Operand} {x : AV} {lo hi : Option Operand} {d : TypeDesc}
    (hx : ev tm xo = some x) (hd : cx.und.get t = some d) (h : xSlice cx tm st k x lo hi d = some r) (ho : o.op = .slice t xo lo hi none) :
    ∃ v st', k v st' = some r ∧ OpOK P σ B w0 E w o a v st' := by
  have hu := hc.und t d hd
  have hxd := ev_sound hT hx
  have hex : (execOp a.eval o).run P w = ((Instr.sliceAt t (a.eval xo) (lo.map a.eval) (hi.map a.eval) none) >>= fun v => pure (Next.value v) : Sem Next).run P w := by simp only [execOp, ho, Option.map_none]
  -- an array behind an address
  have viaArr : ∀ {e : TypeId} {y : AAddr} {n l hh : Nat} {ad : Addr}, x = .ptr (some y) → aden E y = some ad → bound tm 0 lo = some l → bound tm n hi = some hh → cutPtr cx st k e y n l hh = some r →
      ∃ v, k v st = some r ∧ ∃ s z, cx.size.get e = some s ∧ v.den σ E = some z ∧ l ≤ hh ∧ hh ≤ n ∧ z = .slice (some (if n = l then ad else ad.add (l * s))) (hh - l) (n - l) := by
    intro e y n l hh ad _ had _ _ hcut
    obtain ⟨s, hs, hcut⟩ := obind_inv hcut
    obtain ⟨hcond, hcut⟩ := bif_some hcut
    simp only [Bool.and_eq_true] at hcond
    have c1 := Nat.le_of_ble_eq_true hcond.1
    have c2 := Nat.le_of_ble_eq_true hcond.2
    refine ⟨_, hcut, s, _, hs, ?_, c1, c2, rfl⟩
    rw [beq_iff]
    by_cases c : n = l
    · simp only [c, decide_true, bif_true, if_true, AV.den, had, cden, natSub]
      rw [if_pos (by omega)]
    · rw [decide_eq_false c, bif_false, if_neg c]
      have := aden_add (b := y.b) (off := y.off) (by simpa using had) (l * s)
      simp only [AV.den, natAdd, natMul, this, cden, natSub]
      rw [if_pos (by omega)]
  unfold xSlice at h
  split at h
  · rename_i e
    split at h
    · rename_i ya n c
      obtain ⟨l, hl, h⟩ := obind_inv h
      obtain ⟨hh, hhi, h⟩ := obind_inv h
      obtain ⟨s, hs, h⟩ := obind_inv h
      obtain ⟨hcond, h⟩ := bif_some h
      simp only [Bool.and_eq_true] at hcond
      have c1 := Nat.le_of_ble_eq_true hcond.1
      have c2 := Nat.le_of_ble_eq_true hcond.2
      cases ya with
      | none =>
        simp only [AV.den] at hxd
        split at hxd
        · rename_i e0
          have e1 : a.eval xo = .slice none 0 0 := (Option.some.inj hxd).symm
          obtain ⟨rfl, rfl⟩ := e0
          have hh0 : hh = 0 := by omega
          have hl0 : l = 0 := by omega
          subst hh0 hl0
          refine ⟨_, _, h, opok_value hS (x := .slice none 0 0) (by simp [AV.den]) ?_⟩
          rw [hex, e1]
          simp [Instr.sliceAt, run_underlying hu, Instr.slice, bounds_sound hT hl hhi c1 c2, hc.size' hs]
        · cases hxd
      | some y =>
        have hxd' := hxd
        simp only [AV.den] at hxd
        split at hxd
        · rename_i ad cp had hcp
          split at hxd
          · rename_i hn
            simp only [cden, Option.some.injEq] at hcp; subst hcp
            refine ⟨_, _, h, opok_value hS (x := .slice (some (if c = l then ad else ad.add (l * s))) (hh - l) (c - l)) ?_ ?_⟩
            · rw [beq_iff]
              by_cases e : c = l
              · simp only [e, decide_true, bif_true, if_true, AV.den, had, cden, natSub]; rw [if_pos (by omega)]
              · rw [decide_eq_false e, bif_false, if_neg e]
                have := aden_add (b := y.b) (off := y.off) (by simpa using had) (l * s)
                simp only [addO, AV.den, natAdd, natMul, this, cden, natSub]
                rw [if_pos (by omega)]
            · rw [hex]
              have e0 : a.eval xo = .slice (some ad) n c := by
                have := hxd'; simp only [AV.den, had, cden, hn, if_true, Option.some.injEq] at this; exact this.symm
              rw [e0]
              by_cases e : c = l
              · subst e; simp [Instr.sliceAt, run_underlying hu, Instr.slice, bounds_sound hT hl hhi c1 c2, hc.size' hs]
              · simp [Instr.sliceAt, run_underlying hu, Instr.slice, bounds_sound hT hl hhi c1 c2, hc.size' hs, e]
          · cases hxd
        · cases hxd
    · rename_i ya n i sub
      obtain ⟨l, hl, h⟩ := obind_inv h
      obtain ⟨hh, hhi, h⟩ := obind_inv h
      obtain ⟨s, hs, h⟩ := obind_inv h
      obtain ⟨hcond, h⟩ := bif_some h
      simp only [Bool.and_eq_true, Bool.or_eq_true] at hcond
      have c1 := Nat.le_of_ble_eq_true hcond.1.1
      have c2 := Nat.le_of_ble_eq_true hcond.1.2
      have c3 : l = 0 ∨ l < n := hcond.2.imp Nat.eq_of_beq_eq_true blt_true.1
      cases ya with
      | none => simp [AV.den] at hxd
      | some y =>
        have hxd' := hxd
        simp only [AV.den] at hxd
        split at hxd
        · rename_i ad cp had hcp
          split at hxd
          · rename_i hn
            have e0 : a.eval xo = .slice (some ad) n cp := by
              have := hxd'; simp only [AV.den, had, hcp, hn, if_true, Option.some.injEq] at this; exact this.symm
            have hcp' : cden E (.u i (sub + l)) = some (cp - l) := by
              simp only [cden] at hcp ⊢
              split at hcp
              · rename_i c _
                split at hcp
                · cases hcp
                  rw [if_pos (by omega)]; congr 1; omega
                · cases hcp
              · cases hcp
            have := aden_add (b := y.b) (off := y.off) (by simpa using had) (l * s)
            refine ⟨_, _, h, opok_value hS (x := .slice (some (ad.add (l * s))) (hh - l) (cp - l)) ?_ ?_⟩
            · simp only [addO, AV.den, natAdd, natMul, this, hcp', natSub]
              rw [if_pos (by omega)]
            · rw [hex, e0]
              have hbs := bounds_sound (P := P) (b := true) hT hl hhi c1 (Nat.le_trans c2 hn) w
              by_cases e : cp = l
              · have e1 : l = 0 := by omega
                have e2 : cp = 0 := by omega
                rw [e1, e2] at hbs
                rw [e1, e2]
                simp [Instr.sliceAt, run_underlying hu, Instr.slice, hbs, hc.size' hs, Addr.add]
              · simp [Instr.sliceAt, run_underlying hu, Instr.slice, bounds_sound hT hl hhi c1 (Nat.le_trans c2 hn), hc.size' hs, e]
          · cases hxd
        · cases hxd
    · cases h
  · rename_i p
    obtain ⟨y, hy, h⟩ := obind_inv h
    obtain ⟨d2, hd2, h⟩ := obind_inv h
    obtain ⟨ne, hne, h⟩ := obind_inv h
    obtain ⟨l, hl, h⟩ := obind_inv h
    obtain ⟨hh, hhi, h⟩ := obind_inv h
    have hxx := asPtr_inv hy
    rw [hxx] at hxd
    obtain ⟨ad, had, e0⟩ := den_ptr hxd
    obtain ⟨v, hv, s, z, hs, hz, c1, c2, ez⟩ := viaArr hxx had hl hhi h
    subst ez
    have hd2' : d2 = .array ne.1 ne.2 := by
      unfold arrOf at hne; split at hne
      · cases hne; rfl
      · cases hne
    subst hd2'
    refine ⟨v, _, hv, opok_value hS hz ?_⟩
    rw [hex, e0]
    by_cases e : ne.1 = l
    · subst e; simp [Instr.sliceAt, run_underlying hu, Instr.slice, asAddr, hc.und' hd2, bounds_sound hT hl hhi c1 c2, hc.size' hs]
    · simp [Instr.sliceAt, run_underlying hu, Instr.slice, asAddr, hc.und' hd2, bounds_sound hT hl hhi c1 c2, hc.size' hs, e]
  · rename_i n e
    obtain ⟨y, hy, h⟩ := obind_inv h
    obtain ⟨l, hl, h⟩ := obind_inv h
    obtain ⟨hh, hhi, h⟩ := obind_inv h
    have hxx := asPtr_inv hy
    rw [hxx] at hxd
    obtain ⟨ad, had, e0⟩ := den_ptr hxd
    obtain ⟨v, hv, s, z, hs, hz, c1, c2, rfl⟩ := viaArr hxx had hl hhi h
    refine ⟨v, _, hv, opok_value hS hz ?_⟩
    rw [hex, e0]
    by_cases e : n = l
    · subst e; simp [Instr.sliceAt, run_underlying hu, Instr.sureAddr, bounds_sound hT hl hhi c1 c2, hc.size' hs]
    · simp [Instr.sliceAt, run_underlying hu, Instr.sureAddr, bounds_sound hT hl hhi c1 c2, hc.size' hs, e]
  · cases h
end
end Go.Sx
