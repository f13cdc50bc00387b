/-
  UuidMoves returns true, for whatever line and whatever draw. No condition.
-/
import Derived.Test.YtlcamplkgcokjaaUuMvA
import Derived.Test.YtlcamplkgcokjaaSxL
import Derived.WalkKit
import Derived.ProofKit
import Derived.OpenShut
namespace Go.Proofs.Ytlcamplkgcokjaa.UuMv
open Go.ChangeShapes Go.WideShapes Go.ChangeAt Go.RowKit Go.Sx

theorem own : ownKnob Try.prog.godebug = none := by kernel_rfl
def shs : List Sh := [.agg [.u64, .u64, .u64, .u64], .one .u64]
theorem ivs_eq : ivP = ivK (shs.flatMap Sh.kinds) := by kernel_rfl
theorem args_eq : argsP = tmpls 0 shs := by kernel_rfl
theorem good_all : Go.Sx.Good Try.prog 5 (tmpls 0 shs) (ivK (shs.flatMap Sh.kinds)) .nil := by
  have h := all_good
  rw [args_eq, ivs_eq] at h
  exact h
theorem len_eq : Try.f5.params.toList.length = shs.length := by kernel_rfl
theorem shape : (Try.f5.params.toList.zip shs).all (fun p => shOK Try.prog p.1 p.2) = true := by kernel_rfl
set_option maxRecDepth 100000 in
theorem lifted (os : Os) (started : os.Started) (H : Type) (enc : TypeId × Value → H) :
    ReturnsInHanded {} Try.checked os 5 .any (Rows.uuidMovesSpec.pre6 enc Try.prog Try.f5 Rows.uuidMovesRow.domain false) (Rows.uuidMovesSpec.post enc Try.prog Try.f5 false true false false) := by
  refine returnsInHanded_of_change (C := Try.checked) own started (by kernel_rfl) Try.func5
    (ChangeSpec.witness6 (enc := enc) (C := Try.checked) false ⟨#[], #[.agg #[.int .u64 0, .int .u64 0, .int .u64 0, .int .u64 0], .int .u64 0], []⟩ 8 (by kernel_rfl) (by kernel_rfl) (by kernel_rfl) (by kernel_rfl)) ?_
  intro W base args ds gs before hval0 hW hcnd _
  have hA := hW
  obtain ⟨p, q, hA, _⟩ := hA
  obtain ⟨hl1, hl2⟩ := trodAll_length hA
  have hd : ∃ d1 d2, ds = [d1, d2] := by
    have : ds.length = 2 := hl2
    match ds, this with
    | [d1, d2], _ => exact ⟨d1, d2, rfl⟩
  obtain ⟨d1, d2, rfl⟩ := hd
  refine (good_calls (base := base) good_all len_eq shape hl1 (fun j t v h1 h2 => hval0 j t v ((Array.getElem?_toList (xs := Try.f5.params) (i := j)).symm.trans h1) h2)).mono fun e W' ⟨he, hb⟩ => ?_
  subst he
  exact ⟨_, rfl, law_post (by kernel_rfl) rfl (by kernel_rfl) rfl (by kernel_rfl) hW rfl rfl rfl hb⟩

theorem over : Rows.uuidMovesRow.holds Try.pinned (OpenSpec.ofChange Rows.uuidMovesSpec) :=
  OpenClaim.holds_of_wide 5 Try.f5 rfl rfl rfl rfl rfl rfl rfl ⟨rfl, rfl, rfl, rfl, rfl⟩ rfl rfl rfl rfl rfl (by kernel_rfl) Try.func5 (by kernel_rfl)
    (of_decide_eq_true (by kernel_rfl)) (by unfold Func.isWrapper; first | (rw [if_pos (by decide +kernel)]; kernel_rfl) | (rw [if_neg (by decide +kernel)]; exact ⟨rfl, rfl⟩))
    (fun os started H enc _ => lifted os started H enc)

theorem proved : Rows.UuidMovesSaid := over
#print axioms proved
end Go.Proofs.Ytlcamplkgcokjaa.UuMv
