/-
  WireNil returns true. No condition.
-/
import Derived.Test.YtfkaabhmcdiihaaLitR0
import Derived.Test.YtfkaabhmcdiihaaLitR1
import Derived.Test.YtfkaabhmcdiihaaLitR2
import Derived.Test.YtfkaabhmcdiihaaLitR3
import Derived.Test.YtfkaabhmcdiihaaLitR4
import Derived.Test.YtfkaabhmcdiihaaLitR5
import Derived.Test.YtfkaabhmcdiihaaLitR6
import Derived.Test.YtfkaabhmcdiihaaLitR7
import Derived.Test.YtfkaabhmcdiihaaLitR8
import Derived.Test.YtfkaabhmcdiihaaLitR9
import Derived.Test.YtfkaabhmcdiihaaRows
import Derived.WalkKit
import Derived.ProofKit
import Derived.OpenShut
namespace Go.Proofs.Ytfkaabhmcdiihaa.Closed
open Go.ChangeShapes Go.WideShapes Go.ChangeAt Go.RowKit Go.Sy

theorem own : ownKnob Try.prog.godebug = none := by kernel_rfl
theorem mixed : Try.prog.follows .mixedOrders = true := by kernel_rfl
noncomputable def conT2 : Tr Con := (((.nil : Tr Con).set 21 (some (conLit [l21_0, l21_1, l21_2, l21_3]))).set 7 (some (conLit [l7_0, l7_1, l7_2, l7_3, l7_4, l7_5])))
set_option maxRecDepth 1000000 in
theorem con_ok2 (w : World) (Θ : Pred) : ConOK Try.prog mixed conT2 .nil w Θ :=
  conOK_at (con := conT2) (conAt_set (litS_at (con1 := (.nil : Tr Con)) (globOK_nil w) conOK_nil (fun l hl => by
    simp only [List.mem_cons, List.not_mem_nil, or_false] at hl
    rcases hl with rfl | rfl | rfl | rfl | rfl | rfl
    · exact ⟨rfl, rfl, 4000, run_l7_0⟩
    · exact ⟨rfl, rfl, 4000, run_l7_1⟩
    · exact ⟨rfl, rfl, 4000, run_l7_2⟩
    · exact ⟨rfl, rfl, 4000, run_l7_3⟩
    · exact ⟨rfl, rfl, 4000, run_l7_4⟩
    · exact ⟨rfl, rfl, 4000, run_l7_5⟩)) (conAt_set (litS_at (con1 := (.nil : Tr Con)) (globOK_nil w) conOK_nil (fun l hl => by
    simp only [List.mem_cons, List.not_mem_nil, or_false] at hl
    rcases hl with rfl | rfl | rfl | rfl
    · exact ⟨rfl, rfl, 4000, run_l21_0⟩
    · exact ⟨rfl, rfl, 4000, run_l21_1⟩
    · exact ⟨rfl, rfl, 4000, run_l21_2⟩
    · exact ⟨rfl, rfl, 4000, run_l21_3⟩)) conAt_nil))
set_option maxRecDepth 1000000 in
theorem runs : (runX Try.prog conT2 .nil 4000 (.call 3 []) isTrueK).triv = true := by kernel_rfl
theorem is_fn : hasFn Try.prog 3 = true := by kernel_rfl
set_option maxRecDepth 1000000 in
theorem calls (W : World) : Calls Try.prog 3 #[] W fun e w' => e = .returned (.bool true) ∧ Below W.heap.size W w' :=
  closed_true mixed runs is_fn (globOK_nil W) (con_ok2 W _)
set_option maxRecDepth 100000 in
theorem lifted (os : Os) (started : os.Started) (H : Type) (enc : TypeId × Value → H) :
    ReturnsInHanded {} Try.checked os 3 .any (Rows.wireNilSpec.pre6 enc Try.prog Try.f3 Rows.wireNilRow.domain false) (Rows.wireNilSpec.post enc Try.prog Try.f3 false true false false) := by
  refine returnsInHanded_of_change (C := Try.checked) own started (by kernel_rfl) Try.func3
    (ChangeSpec.witness6 (enc := enc) (C := Try.checked) false ⟨#[], #[], []⟩ 8 (by kernel_rfl) (by kernel_rfl) (by kernel_rfl) (by kernel_rfl)) ?_
  intro W base args ds gs before hval0 hW hcnd _
  have hA := hW
  obtain ⟨p, q, hA, _⟩ := hA
  obtain ⟨hl1, hl2⟩ := trodAll_length hA
  have hd : ds = [] := List.eq_nil_of_length_eq_zero hl2
  have ha : args = #[] := by apply Array.ext'; exact List.eq_nil_of_length_eq_zero hl1
  subst hd ha
  refine (calls W).mono fun e W' ⟨he, hb⟩ => ?_
  subst he
  exact ⟨_, rfl, law_post (by kernel_rfl) rfl (by kernel_rfl) rfl (by kernel_rfl) hW rfl rfl rfl hb⟩

theorem over : Rows.wireNilRow.holds Try.pinned (OpenSpec.ofChange Rows.wireNilSpec) :=
  OpenClaim.holds_of_wide 3 Try.f3 rfl rfl rfl rfl rfl rfl rfl ⟨rfl, rfl, rfl, rfl, rfl⟩ rfl rfl rfl rfl rfl (by kernel_rfl) Try.func3 (by kernel_rfl)
    (of_decide_eq_true (by kernel_rfl)) (by unfold Func.isWrapper; first | (rw [if_pos (by decide +kernel)]; kernel_rfl) | (rw [if_neg (by decide +kernel)]; exact ⟨rfl, rfl⟩))
    (fun os started H enc _ => lifted os started H enc)

theorem proved : Rows.WireNilSaid := over
#print axioms proved
end Go.Proofs.Ytfkaabhmcdiihaa.Closed
