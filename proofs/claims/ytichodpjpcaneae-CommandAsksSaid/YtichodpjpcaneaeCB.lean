/-
  CommandAsks: contracts.
-/
import Derived.Test.YtichodpjpcaneaeCA
namespace Go.Proofs.Ytichodpjpcaneae.Closed
open Go.Sy Go.Sy.Res
theorem is_writes : hasFn Try.prog 12 = true := by kernel_rfl
set_option maxRecDepth 1000000 in
theorem writesT : (runS Try.prog con1 .nil 100000 (nzOf tabs2) (facts 0 tabs2) (.call 12 (tmpls 0 tabs2)) (isTree F [(fW, .bool true)])).triv = true := by kernel_rfl
set_option maxRecDepth 1000000 in
theorem writes_tree : TreeSpec Try.prog .nil 12 tabs2 F [(fW, .bool true)] := tree_spec (hm := mixed) writesT (by kernel_rfl) (by kernel_rfl) is_writes (fun w Θ _ => conOK_at (con1_at w Θ))
theorem is_writesr : hasFn Try.prog 16 = true := by kernel_rfl
set_option maxRecDepth 1000000 in
theorem writesrT : (runS Try.prog con1 .nil 100000 (nzOf tabs2) (facts 0 tabs2) (.call 16 (tmpls 0 tabs2)) (isTree F [(fWr, .bool true)])).triv = true := by kernel_rfl
set_option maxRecDepth 1000000 in
theorem writesr_tree : TreeSpec Try.prog .nil 16 tabs2 F [(fWr, .bool true)] := tree_spec (hm := mixed) writesrT (by kernel_rfl) (by kernel_rfl) is_writesr (fun w Θ _ => conOK_at (con1_at w Θ))
noncomputable def con2 : Tr Con := (con1.set 16 (some (conTree tabs2 F [(fW, .bool true)]))).set 12 (some (conTree tabs2 F [(fW, .bool true)]))
theorem con2_at (w : World) (Θ : Pred) : ∀ f c, con2.get f = some c → ConAt Try.prog mixed .nil w Θ .nil .nil f c :=
  conAt_set (tree_at writes_tree (by kernel_rfl) (globOK_nil w) is_writes) (conAt_set (tree_at (tree_conv writesr_tree fun zs hz => (eqW hz).1) (by kernel_rfl) (globOK_nil w) is_writesr) (con1_at w Θ))
end Go.Proofs.Ytichodpjpcaneae.Closed
