/-
  CommandAsks: contracts.
-/
import Derived.Test.YtichodpjpcaneaeSyLast
import Derived.Test.YtichodpjpcaneaeChecked
import Derived.KernelRfl
namespace Go.Proofs.Ytichodpjpcaneae.Closed
open Go.Sy Go.Sy.Res
theorem mixed : Try.prog.follows .mixedOrders = true := by kernel_rfl
noncomputable abbrev F : AV := .bool false
noncomputable abbrev tabs1 : List Sh := [tab]
noncomputable abbrev tabs2 : List Sh := [tab, .one (.i .i64)]
theorem is_many : hasFn Try.prog 24 = true := by kernel_rfl
set_option maxRecDepth 1000000 in
theorem manyT : Sha.vcSame (runS Try.prog .nil .nil 100000 19 [] (.call 24 (tmpls 0 [tab])) manyK (manyLS 98308)) manyVC = true := by kernel_rfl
noncomputable def con0 : Tr Con := Tr.nil.set 24 (some conMany)
theorem con0_at (w : World) (Θ : Pred) : ∀ f c, con0.get f = some c → ConAt Try.prog mixed .nil w Θ .nil .nil f c := conAt_set (many_at (many_spec mixed manyT is_many) is_many) conAt_nil
theorem is_may : hasFn Try.prog 13 = true := by kernel_rfl
set_option maxRecDepth 1000000 in
theorem mayT : (runS Try.prog con0 .nil 100000 (nzOf tabs1) (facts 0 tabs1) (.call 13 (tmpls 0 tabs1)) (isTree F [(fM, .bool true)])).triv = true := by kernel_rfl
set_option maxRecDepth 1000000 in
theorem may_tree : TreeSpec Try.prog .nil 13 tabs1 F [(fM, .bool true)] := tree_spec (hm := mixed) mayT (by kernel_rfl) (by kernel_rfl) is_may (fun w Θ _ => conOK_at (con0_at w Θ))
theorem is_mayr : hasFn Try.prog 14 = true := by kernel_rfl
set_option maxRecDepth 1000000 in
theorem mayrT : (runS Try.prog con0 .nil 100000 (nzOf tabs1) (facts 0 tabs1) (.call 14 (tmpls 0 tabs1)) (isTree F [(fMr, .bool true)])).triv = true := by kernel_rfl
set_option maxRecDepth 1000000 in
theorem mayr_tree : TreeSpec Try.prog .nil 14 tabs1 F [(fMr, .bool true)] := tree_spec (hm := mixed) mayrT (by kernel_rfl) (by kernel_rfl) is_mayr (fun w Θ _ => conOK_at (con0_at w Θ))
noncomputable def con1 : Tr Con := (con0.set 14 (some (conTree tabs1 F [(fM, .bool true)]))).set 13 (some (conTree tabs1 F [(fM, .bool true)]))
theorem con1_at (w : World) (Θ : Pred) : ∀ f c, con1.get f = some c → ConAt Try.prog mixed .nil w Θ .nil .nil f c :=
  conAt_set (tree_at may_tree (by kernel_rfl) (globOK_nil w) is_may) (conAt_set (tree_at (tree_conv mayr_tree fun zs hz => eqM (.inl hz)) (by kernel_rfl) (globOK_nil w) is_mayr) (con0_at w Θ))
end Go.Proofs.Ytichodpjpcaneae.Closed
