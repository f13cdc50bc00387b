/-
  CommandAsks: contracts.
-/
import Derived.Test.YtichodpjpcaneaeCB
namespace Go.Proofs.Ytichodpjpcaneae.Closed
open Go.Sy Go.Sy.Res
theorem is_reads : hasFn Try.prog 11 = true := by kernel_rfl
set_option maxRecDepth 1000000 in
theorem readsT : (runS Try.prog con2 .nil 100000 (nzOf tabs2) (facts 0 tabs2) (.call 11 (tmpls 0 tabs2)) (isTree F [(fR, .bool true)])).triv = true := by kernel_rfl
set_option maxRecDepth 1000000 in
theorem reads_tree : TreeSpec Try.prog .nil 11 tabs2 F [(fR, .bool true)] := tree_spec (hm := mixed) readsT (by kernel_rfl) (by kernel_rfl) is_reads (fun w Θ _ => conOK_at (con2_at w Θ))
theorem is_readsr : hasFn Try.prog 15 = true := by kernel_rfl
set_option maxRecDepth 1000000 in
theorem readsrT : (runS Try.prog con1 .nil 100000 (nzOf tabs2) (facts 0 tabs2) (.call 15 (tmpls 0 tabs2)) (isTree F [(fRr, .bool true)])).triv = true := by kernel_rfl
set_option maxRecDepth 1000000 in
theorem readsr_tree : TreeSpec Try.prog .nil 15 tabs2 F [(fRr, .bool true)] := tree_spec (hm := mixed) readsrT (by kernel_rfl) (by kernel_rfl) is_readsr (fun w Θ _ => conOK_at (con1_at w Θ))
theorem is_known : hasFn Try.prog 10 = true := by kernel_rfl
set_option maxRecDepth 1000000 in
theorem knownT : (runX Try.prog .nil .nil 100000 (.call 10 []) (isValK (.bool true))).triv = true := by kernel_rfl
noncomputable def con3 : Tr Con := ((con2.set 15 (some (conTree tabs2 F [(fR, .bool true)]))).set 11 (some (conTree tabs2 F [(fR, .bool true)]))).set 10 (some (conRes (constG (.bool true))))
theorem con3_at (w : World) (Θ : Pred) : ∀ f c, con3.get f = some c → ConAt Try.prog mixed .nil w Θ .nil .nil f c :=
  conAt_set (ConCl.at ⟨_, rfl, .inr ⟨is_known, res_const knownT is_known ⟨.bool true, fun _ => rfl⟩ (globOK_nil w) (fun _ _ => conOK_nil)⟩⟩)
    (conAt_set (tree_at reads_tree (by kernel_rfl) (globOK_nil w) is_reads) (conAt_set (tree_at (tree_conv readsr_tree fun zs hz => (eqW hz).2) (by kernel_rfl) (globOK_nil w) is_readsr) (con2_at w Θ)))
end Go.Proofs.Ytichodpjpcaneae.Closed
