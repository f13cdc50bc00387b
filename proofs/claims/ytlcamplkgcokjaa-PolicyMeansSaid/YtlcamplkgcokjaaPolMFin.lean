/-
  PolicyMeans returns true, for whatever policy and whatever two sides. No condition.
-/
import Derived.Test.YtlcamplkgcokjaaPolMA
import Derived.Test.YtlcamplkgcokjaaSxL
import Derived.WalkKit
import Derived.ProofKit
import Derived.OpenShut
namespace Go.Proofs.Ytlcamplkgcokjaa.PolM
open Go.ChangeShapes Go.WideShapes Go.ChangeAt Go.RowKit Go.Sx

theorem own : ownKnob Try.prog.godebug = none := by kernel_rfl
def side : Sh := .agg [.i64, .i64, .u64, .u64, .u64, .u64, .i64]
def shs : List Sh := [.agg [.i64, .i64, .i64], side, side]
theorem ivs_eq : ivP = ivK (shs.flatMap Sh.kinds) := by kernel_rfl
theorem args_eq : argsP = tmpls 0 shs := by kernel_rfl
theorem good_all : Go.Sx.Good Try.prog 7 (tmpls 0 shs) (ivK (shs.flatMap Sh.kinds)) .nil := by
  have h := all_good
  rw [args_eq, ivs_eq] at h
  exact h
theorem len_eq : Try.f7.params.toList.length = shs.length := by kernel_rfl
theorem shape : (Try.f7.params.toList.zip shs).all (fun p => shOK Try.prog p.1 p.2) = true := by kernel_rfl
def zeroSide : Value := .agg #[.int .i64 0, .int .i64 0, .int .u64 0, .int .u64 0, .int .u64 0, .int .u64 0, .int .i64 0]
set_option maxRecDepth 100000 in
theorem lifted (os : Os) (started : os.Started) (H : Type) (enc : TypeId × Value → H) :
    ReturnsInHanded {} Try.checked os 7 .any (Rows.policyMeansSpec.pre6 enc Try.prog Try.f7 Rows.policyMeansRow.domain false) (Rows.policyMeansSpec.post enc Try.prog Try.f7 false true false false) := by
  refine returnsInHanded_of_change (C := Try.checked) own started (by kernel_rfl) Try.func7
    (ChangeSpec.witness6 (enc := enc) (C := Try.checked) false ⟨#[], #[.agg #[.int .i64 0, .int .i64 0, .int .i64 0], zeroSide, zeroSide], []⟩ 8 (by kernel_rfl) (by kernel_rfl) (by kernel_rfl) (by kernel_rfl)) ?_
  intro W base args ds gs before hval0 hW hcnd _
  have hA := hW
  obtain ⟨p, q, hA, _⟩ := hA
  obtain ⟨hl1, hl2⟩ := trodAll_length hA
  have hd : ∃ d1 d2 d3, ds = [d1, d2, d3] := by
    have : ds.length = 3 := hl2
    match ds, this with
    | [d1, d2, d3], _ => exact ⟨d1, d2, d3, rfl⟩
  obtain ⟨d1, d2, d3, rfl⟩ := hd
  refine (good_calls (base := base) good_all len_eq shape hl1 (fun j t v h1 h2 => hval0 j t v ((Array.getElem?_toList (xs := Try.f7.params) (i := j)).symm.trans h1) h2)).mono fun e W' ⟨he, hb⟩ => ?_
  subst he
  exact ⟨_, rfl, law_post (by kernel_rfl) rfl (by kernel_rfl) rfl (by kernel_rfl) hW rfl rfl rfl hb⟩

theorem over : Rows.policyMeansRow.holds Try.pinned (OpenSpec.ofChange Rows.policyMeansSpec) :=
  OpenClaim.holds_of_wide 7 Try.f7 rfl rfl rfl rfl rfl rfl rfl ⟨rfl, rfl, rfl, rfl, rfl⟩ rfl rfl rfl rfl rfl (by kernel_rfl) Try.func7 (by kernel_rfl)
    (of_decide_eq_true (by kernel_rfl)) (by unfold Func.isWrapper; first | (rw [if_pos (by decide +kernel)]; kernel_rfl) | (rw [if_neg (by decide +kernel)]; exact ⟨rfl, rfl⟩))
    (fun os started H enc _ => lifted os started H enc)

theorem proved : Rows.PolicyMeansSaid := over
#print axioms proved
end Go.Proofs.Ytlcamplkgcokjaa.PolM
