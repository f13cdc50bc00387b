import Derived.Test.YtabhdlkefojbfabLitR0
import Derived.Test.YtabhdlkefojbfabLitR1
import Derived.Test.YtabhdlkefojbfabLitR2
import Derived.Test.YtabhdlkefojbfabLitR3
import Derived.Test.YtabhdlkefojbfabLitR4
import Derived.Test.YtabhdlkefojbfabLitR5
import Derived.Test.YtabhdlkefojbfabLitR6
import Derived.ProofKit
/-! The inner calls. -/
namespace Go.Proofs.Ytabhdlkefojbfab.Closed
open Go Go.Sy Go.RowKit
theorem mixed : Try.prog.follows .mixedOrders = true := by kernel_rfl
noncomputable def conT2 : Tr Con := ((((.nil : Tr Con).set 4 (some (conLit [l4_0]))).set 5 (some (conLit [l5_0]))).set 6 (some (conLit [l6_0, l6_1, l6_2, l6_3, l6_4])))
set_option maxRecDepth 1000000 in
theorem con_at2 (w : World) (Θ : Pred) : ∀ f c, conT2.get f = some c → ConAt Try.prog mixed .nil w Θ .nil .nil f c :=
  (conAt_set (litS_at (con1 := (.nil : Tr Con)) (globOK_nil w) conOK_nil (fun l hl => by
    simp only [List.mem_cons, List.not_mem_nil, or_false] at hl
    rcases hl with rfl | rfl | rfl | rfl | rfl
    · exact ⟨rfl, rfl, 4000, run_l6_0⟩
    · exact ⟨rfl, rfl, 4000, run_l6_1⟩
    · exact ⟨rfl, rfl, 4000, run_l6_2⟩
    · exact ⟨rfl, rfl, 4000, run_l6_3⟩
    · exact ⟨rfl, rfl, 4000, run_l6_4⟩)) (conAt_set (litS_at (con1 := (.nil : Tr Con)) (globOK_nil w) conOK_nil (fun l hl => by
    obtain rfl : l = l5_0 := by simpa using hl
    exact ⟨rfl, rfl, 4000, run_l5_0⟩)) (conAt_set (litS_at (con1 := (.nil : Tr Con)) (globOK_nil w) conOK_nil (fun l hl => by
    obtain rfl : l = l4_0 := by simpa using hl
    exact ⟨rfl, rfl, 4000, run_l4_0⟩)) conAt_nil)))
theorem con_ok2 (w : World) (Θ : Pred) : ConOK Try.prog mixed conT2 .nil w Θ :=
  conOK_at (con := conT2) (con_at2 w Θ)
end Go.Proofs.Ytabhdlkefojbfab.Closed
