import Derived.Test.YtfacieofpleobadDoorProg
import Derived.Test.YtfacieofpleobadDoorRows
import Derived.Test.YtfacieofpleobadDoorSyLast
import Derived.ProofKit
/-! Presses, the constants, sums, of this program. -/
namespace Go.Proofs.YtfacieofpleobadDoor.Closed
open Go Go.Sy Go.Sy.Sha Go.RowKit
abbrev kl : List Nat := klN
def laidL {H : Type} : List (String × DataW H) := [("gemel/sha.primes", Rows.laid_gemel_sha_primes)]
noncomputable def gl : Tr (Tr AV) := globOf Tryd.prog laidL
noncomputable def behind (tm : Tm) (s p : Nat) : List (Nat × Nat × Nat) := match slot tm (pth s) with
  | .int _ u => natCase u [] fun j => [(p, j, 1)]
  | _ => []
noncomputable def lsA : Tr LSpec := ((((Tr.nil.set 36868 (some (.nm [7, 8, 9, 10, 11, 12, 13, 14] fun _ => []))).set 57348 (some (.nm [] fun tm => behind tm 10 3))).set 57353 (some (.nm [] fun tm => behind tm 5 3))))
noncomputable def lsC : Tr LSpec := Tr.nil.set 28677 (some (.inv [3] [(1, 0, 64)] [4, 7, 8, 9, 10, 11, 12, 13, 14, 15, 16, 17, 18, 19, 20, 21, 22, 23, 24, 25, 26, 27, 28, 29, 30, 31, 32] 0 (fun _ _ => []) (.zv 0)))
theorem mixed : Tryd.prog.follows .mixedOrders = true := by kernel_rfl
theorem kl_len : kl.length = 64 := rfl
theorem kl_lt : ∀ x ∈ kl, x < 4294967296 := by decide
set_option maxRecDepth 1000000 in
theorem pressA : (runPress wayA kl Tryd.prog 100000 9 lsA).triv = true := by kernel_rfl
theorem is_press : hasFn Tryd.prog 9 = true := by kernel_rfl
theorem is_mul : hasFn Tryd.prog 12 = true := by kernel_rfl
theorem is_const : hasFn Tryd.prog 7 = true := by kernel_rfl
theorem is_sum : hasFn Tryd.prog 4 = true := by kernel_rfl
theorem mulT : (runX Tryd.prog .nil .nil 100000 (.call 12 [.sym .u64 (.zv 0), .sym .u64 (.zv 1)]) mulK .nil .nil stM).triv = true := by kernel_rfl
set_option maxRecDepth 1000000 in
theorem constT : vcSame (runX Tryd.prog ((Tr.nil.set 12 (some (conRel gmul 2 3))).set 13 (some (conRel gsub 2 4))) gl 100000 (.call 7 []) constK lsC) constVC = true := by kernel_rfl
set_option maxRecDepth 1000000 in
theorem rootsT : (rootsN primesN 35).map (· % 4294967296) = kl := by kernel_rfl
theorem const_ok (w : World) (hg : GlobOK gl w) : ResOK Tryd.prog mixed gl w 7 (constG (.agg (intsF .u32 kl))) :=
  const_res hg is_const is_mul mulT Tryd.func13 (by kernel_rfl) (by kernel_rfl) (by kernel_rfl) (by kernel_rfl) constT rootsT kl_lt
noncomputable def lsB : Tr LSpec := ((Tr.nil.set 40974 (some (.nm [10, 11, 12, 13, 14, 15, 16, 17] fun _ => []))).set 40965 (some (.nm [] fun tm => behind tm 7 6)))
set_option maxRecDepth 1000000 in
theorem pressB : (runPressB wayB kl Tryd.prog 100000 10 lsB).triv = true := by kernel_rfl
theorem is_pressB : hasFn Tryd.prog 10 = true := by kernel_rfl
theorem is_sumB : hasFn Tryd.prog 5 = true := by kernel_rfl
end Go.Proofs.YtfacieofpleobadDoor.Closed
