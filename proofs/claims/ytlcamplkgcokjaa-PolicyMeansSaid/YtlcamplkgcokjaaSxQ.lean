import Derived.Test.YtlcamplkgcokjaaSxPE
import Derived.Laws.Tables
import Derived.Laws.MakeOwn
import Derived.Great.BuildSlice
import Derived.ChangeMaps3
/-! Composite values, slices. -/
namespace Go.Sx
open Go.RowKit (Below)
section
variable {P : Program} {cx : Cx} {σ : Nat → Option Value} {B : Nat} {w0 : World} {E : Env} {st : St} {w : World} {tm : Tm} {a : Act} {N : Nat} {β : Type} {k : Kt β} {r : β} {o : Oper}

theorem denL_fillAt : ∀ {vs l : List AV} {ys xs : List Value} (off : Nat), denL σ E vs = some ys → denL σ E l = some xs → denL σ E (fillAt off vs l) = some (fillAt off ys xs)
  | [], l, ys, xs, off, h, hl => by rw [denL_nil.1 h]; exact hl
  | v :: r, l, ys, xs, off, h, hl => by
    obtain ⟨p, q, hp, hq, rfl⟩ := denL_cons.1 h
    simp only [fillAt, setL_eq]
    exact denL_fillAt _ hq (denL_set off hl hp)
theorem fold_fillAt : ∀ (ys : List Value) (s off : Nat) (cs : Array Value), ((ys.zipIdx s).foldl (fun cs x => cs.setIfInBounds (off + x.2) x.1) cs).toList = fillAt (off + s) ys cs.toList
  | [], s, off, cs => by simp [fillAt]
  | y :: r, s, off, cs => by
    simp only [List.zipIdx_cons, List.foldl_cons, fillAt, setL_eq]
    rw [fold_fillAt r (s + 1) off]
    simp [Nat.add_assoc]
theorem fill_sound (hs : ∀ i x, σ i = some x → x.oneCell' = true) {place place' : Nat → Option (Nat × Nat)} (hpl : ∀ i p, place i = some p → place' i = some p) :
    ∀ {ps : List (Nat × AV)} {l l' : List AV} {xs : List Value} {qs : List (Nat × Value)}, buildP place ps l = some l' → denL σ E l = some xs → qs.length = ps.length →
      (∀ (j i : Nat) (v : AV), ps[j]? = some (i, v) → ∃ y, qs[j]? = some (i, y) ∧ v.den σ E = some y) → ∃ xs', denL σ E l' = some xs' ∧ Instr.fill place' xs.toArray qs = some xs'.toArray
  | [], l, l', xs, qs, h, hl, hlen, _ => by
    cases h
    have : qs = [] := List.length_eq_zero_iff.1 hlen
    subst this
    exact ⟨xs, hl, rfl⟩
  | (i, v) :: r, l, l', xs, [], h, hl, hlen, _ => by simp at hlen
  | (i, v) :: r, l, l', xs, (i', y) :: qs, h, hl, hlen, hq => by
    obtain ⟨y', h1, hy⟩ := hq 0 i v (by simp)
    simp at h1; obtain ⟨rfl, rfl⟩ := h1
    obtain ⟨p, hp, h⟩ := obind_inv h
    obtain ⟨hcond, h⟩ := bif_some h
    simp only [Bool.and_eq_true] at hcond
    obtain ⟨c1, c2⟩ := hcond
    have e1 : p.2 = v.cells.length := by have := Nat.eq_of_beq_eq_true c1; rwa [lenL_eq] at this
    have e2 : p.1 + p.2 ≤ l.length := by have := Nat.le_of_ble_eq_true c2; rwa [lenL_eq] at this
    obtain ⟨ys, hys, hcs⟩ := den_cells hs hy
    have hl1 := denL_length hys
    have hl2 := denL_length hl
    obtain ⟨xs', h3, h4⟩ := fill_sound hs hpl h (denL_fillAt p.1 hys hl) (by simpa using hlen) (fun j i v hv => by obtain ⟨z, z1, z2⟩ := hq (j + 1) i v (by simpa using hv); exact ⟨z, by simpa using z1, z2⟩)
    refine ⟨xs', h3, ?_⟩
    have hsz : y.cells.size = p.2 := by rw [e1, ← hl1, ← hcs]; simp
    have hfold : (y.cells.zipIdx.foldl (fun cs x => cs.setIfInBounds (p.1 + x.2) x.1) xs.toArray) = (fillAt p.1 ys xs).toArray := by
      apply Array.ext'
      rw [← Array.foldl_toList, Array.toList_zipIdx, hcs]
      simpa using fold_fillAt ys 0 p.1 xs.toArray
    simp only [Instr.fill, hpl _ p hp]
    rw [if_neg (by simp [hsz]; omega)]
    rw [hfold]
    exact h4
theorem parts_of (hT : TmRel σ E tm a N) {parts : Array (Nat × Operand)} {ps : List (Nat × AV)} (h : evParts tm parts.toList = some ps) :
    (parts.map fun (i, x) => (i, a.eval x)).toList.length = ps.length ∧ ∀ (j i : Nat) (v : AV), ps[j]? = some (i, v) → ∃ y, (parts.map fun (i, x) => (i, a.eval x)).toList[j]? = some (i, y) ∧ v.den σ E = some y := by
  obtain ⟨h1, h2⟩ := evParts_sound hT h
  refine ⟨by simp [h1], fun j i v hv => ?_⟩
  obtain ⟨x, e1, e2⟩ := h2 j i v hv
  refine ⟨a.eval x, ?_, e2⟩
  simp only [Array.toList_map, List.getElem?_map, e1, Option.map_some]

theorem xBuild_sound (hc : CxOK P cx σ B w0) (hS : StRel σ B w0 E st w) (hT : TmRel σ E tm a N) {t : TypeId} {parts : Array (Nat × Operand)} {z : List AV} {ps : List (Nat × AV)} {d : TypeDesc}
    (hz : cx.zero.get t = some z) (hps : evParts tm parts.toList = some ps) (hd : cx.und.get t = some d) (h : xBuild cx st k ps z d = some r) (ho : o.op = .build t parts) :
    ∃ v st', k v st' = some r ∧ OpOK P σ B w0 E w o a v st' := by
  obtain ⟨it, zv, h1, h2, h3, _, h4, h5⟩ := hc.zero t z hz
  obtain ⟨hl, hq⟩ := parts_of hT hps
  have hu := hc.und t d hd
  have hex : (execOp a.eval o).run P w = ((Instr.build t (parts.map fun (i, x) => (i, a.eval x))) >>= fun v => pure (Next.value v) : Sem Next).run P w := by simp only [execOp, ho]
  unfold xBuild at h
  split at h
  · rename_i fs
    obtain ⟨l, hb, h⟩ := obind_inv h
    have hpl : ∃ places, fs.toList.mapM (fun f => (P.info? f.type).map fun i => (f.offset, i.size)) = some places ∧ ∀ i p, placeS cx fs.toList i = some p → places[i]? = some p := by
      refine ⟨fs.toList.map fun f => (((P.info? f.type).map fun i => (f.offset, i.size)).getD (0, 0)), ChangeMaps.mapM_total _ fun f hf => ?_, fun i p hp => ?_⟩
      · obtain ⟨i, hi⟩ := hc.fld t fs hd f hf; exact ⟨_, by rw [hi]; rfl⟩
      · obtain ⟨f, hf, hp⟩ := obind_inv hp
        obtain ⟨n, hn, hp⟩ := obind_inv hp
        cases hp
        rw [getL_eq] at hf
        obtain ⟨i', hi', hn'⟩ := hc.size _ _ hn
        simp [hf, hi', hn']
    obtain ⟨places, hp1, hp2⟩ := hpl
    obtain ⟨xs', e1, e2⟩ := fill_sound (E := E) hc.sig (place' := (places.toArray[·]?)) (fun i p hp => by simpa using hp2 i p hp) hb (h5 E) hl hq
    refine ⟨_, _, h, opok_value hS (x := .agg xs'.toArray) (by simp [AV.den, e1]) ?_⟩
    rw [hex]
    have := run_build (P := P) w t (parts.map fun (i, x) => (i, a.eval x)) xs'.toArray (by simp only [Program.built, h1, hu, h2, hp1]; simpa using e2)
    simp [this]
  · rename_i n e
    obtain ⟨s, hs, g1⟩ := obind_inv h
    obtain ⟨l, hb, g2⟩ := obind_inv g1
    obtain ⟨ie, hie, e0⟩ := hc.size _ _ hs
    rw [← e0] at hb
    obtain ⟨xs', e1, e2⟩ := fill_sound (E := E) hc.sig (place' := fun i => some (i * ie.size, ie.size)) (fun i p hp => hp) hb (h5 E) hl hq
    refine ⟨_, _, g2, opok_value hS (x := .agg xs'.toArray) (by simp [AV.den, e1]) ?_⟩
    rw [hex]
    have := run_build (P := P) w t (parts.map fun (i, x) => (i, a.eval x)) xs'.toArray (by simp only [Program.built, h1, hu, h2, hie]; simpa using e2)
    simp [this]
  · cases h

theorem rep_made (z : List Value) : ∀ n : Nat, (List.replicate n z).flatten = (madeCells z.toArray (n * z.length)).toList := by
  intro n
  apply List.ext_getElem?
  intro i
  simp only [madeCells, Array.toList_map, Array.toList_range, List.getElem?_map]
  by_cases c : i < n * z.length
  · rw [List.getElem?_range c]
    simp only [Option.map_some]
    induction n generalizing i with
    | zero => simp at c
    | succ n ih =>
      rw [List.replicate_succ, List.flatten_cons]
      by_cases c2 : i < z.length
      · rw [List.getElem?_append_left c2, Nat.mod_eq_of_lt (by simpa using c2)]
        simp [c2, getElem!_pos]
      · rw [List.getElem?_append_right (by omega)]
        have hm : i % z.toArray.size = (i - z.length) % z.toArray.size := by simp; rw [Nat.mod_eq_sub_mod (by omega)]
        rw [hm]
        exact ih (i - z.length) (by rw [Nat.succ_mul] at c; omega)
  · rw [List.getElem?_eq_none (by simp [List.length_flatten]; omega), List.getElem?_eq_none (by simp; omega)]
    rfl
end
end Go.Sx
