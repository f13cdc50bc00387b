import Derived.Test.YtldkmeeogkelbadGreatDoorProg
import Derived.Test.YtldkmeeogkelbadGreatDoorRows
import Derived.Test.YtldkmeeogkelbadGreatDoorSyLast
import Derived.ProofKit
/-! Presses, the constants, sums, of this program. -/
namespace Go.Proofs.YtldkmeeogkelbadGreatDoor.Closed
open Go Go.Sy Go.Sy.Sha Go.RowKit
abbrev kl : List Nat := klN
def laidL {H : Type} : List (String × DataW H) := [("math/bits.deBruijn64tab", Rows.laid_math_bits_deBruijn64tab), ("gemel/sha.primes", Rows.laid_gemel_sha_primes), ("gemel/message.names", Rows.laid_gemel_message_names)]
noncomputable def gl : Tr (Tr AV) := globOf Tryz.prog laidL
noncomputable def behind (tm : Tm) (s p : Nat) : List (Nat × Nat × Nat) := match slot tm (pth s) with
  | .int _ u => natCase u [] fun j => [(p, j, 1)]
  | _ => []
noncomputable def lsA : Tr LSpec := ((((Tr.nil.set 487428 (some (.nm [7, 8, 9, 10, 11, 12, 13, 14] fun _ => []))).set 700420 (some (.nm [] fun tm => behind tm 10 3))).set 700425 (some (.nm [] fun tm => behind tm 5 3))))
noncomputable def lsC : Tr LSpec := Tr.nil.set 479237 (some (.inv [3] [(1, 0, 64)] [4, 7, 8, 9, 10, 11, 12, 13, 14, 15, 16, 17, 18, 19, 20, 21, 22, 23, 24, 25, 26, 27, 28, 29, 30, 31, 32] 0 (fun _ _ => []) (.zv 0)))
theorem mixed : Tryz.prog.follows .mixedOrders = true := by kernel_rfl
theorem kl_len : kl.length = 64 := rfl
theorem kl_lt : ∀ x ∈ kl, x < 4294967296 := by decide
set_option maxRecDepth 1000000 in
theorem pressA : (runPress wayA kl Tryz.prog 100000 119 lsA).triv = true := by kernel_rfl
theorem is_press : hasFn Tryz.prog 119 = true := by kernel_rfl
theorem is_mul : hasFn Tryz.prog 169 = true := by kernel_rfl
theorem is_const : hasFn Tryz.prog 117 = true := by kernel_rfl
theorem is_sum : hasFn Tryz.prog 73 = true := by kernel_rfl
theorem mulT : (runX Tryz.prog .nil .nil 100000 (.call 169 [.sym .u64 (.zv 0), .sym .u64 (.zv 1)]) mulK .nil .nil stM).triv = true := by kernel_rfl
set_option maxRecDepth 1000000 in
theorem constT : vcSame (runX Tryz.prog ((Tr.nil.set 169 (some (conRel gmul 2 3))).set 170 (some (conRel gsub 2 4))) gl 100000 (.call 117 []) constK lsC) constVC = true := by kernel_rfl
set_option maxRecDepth 1000000 in
theorem rootsT : (rootsN primesN 35).map (· % 4294967296) = kl := by kernel_rfl
theorem const_ok (w : World) (hg : GlobOK gl w) : ResOK Tryz.prog mixed gl w 117 (constG (.agg (intsF .u32 kl))) :=
  const_res hg is_const is_mul mulT Tryz.func170 (by kernel_rfl) (by kernel_rfl) (by kernel_rfl) (by kernel_rfl) constT rootsT kl_lt
set_option maxRecDepth 1000000 in
theorem runA_248 : vcSame (runSum Tryz.prog gl 100000 73 248 (mkA 119 117 kl gl)) (sumVC 248) = true := by kernel_rfl
set_option maxRecDepth 1000000 in
theorem sumA_248 : BytesAt Tryz.prog gl 73 248 (sumN kl 248) :=
  sum_bytes (hm := mixed) is_sum runA_248 (fun w ro hg => mkA_ok kl_lt is_press (fun {_ _ _ _ _ _ _ _ _ _ _} => press_calls mixed wayA_ok is_press kl_len kl_lt pressA) is_const const_ok w ro hg)
set_option maxRecDepth 1000000 in
theorem runA_256 : vcSame (runSum Tryz.prog gl 100000 73 256 (mkA 119 117 kl gl)) (sumVC 256) = true := by kernel_rfl
set_option maxRecDepth 1000000 in
theorem sumA_256 : BytesAt Tryz.prog gl 73 256 (sumN kl 256) :=
  sum_bytes (hm := mixed) is_sum runA_256 (fun w ro hg => mkA_ok kl_lt is_press (fun {_ _ _ _ _ _ _ _ _ _ _} => press_calls mixed wayA_ok is_press kl_len kl_lt pressA) is_const const_ok w ro hg)
noncomputable def conT : Tr Con := (Tr.nil.set 73 (some (conSum2 (cxR gl .nil) [248, 256] [248, 256]))).set 117 (some (conRes (constG (.agg (intsF .u32 kl)))))
set_option maxRecDepth 1000000 in
theorem con_at (w : World) (hg : GlobOK gl w) (Θ : Pred) : ∀ f c, conT.get f = some c → ConAt Tryz.prog mixed gl w Θ .nil .nil f c :=
  (conAt_set (ConCl.at ⟨_, rfl, .inr ⟨is_const, const_ok w hg⟩⟩) (conAt_set (sum2_at (cx := cxR gl .nil) rfl rfl hg is_sum (fun n hn => by
    simp only [List.mem_cons, List.not_mem_nil, or_false] at hn
    rcases hn with rfl | rfl
    · exact sumA_248
    · exact sumA_256)) conAt_nil))
set_option maxRecDepth 1000000 in
theorem con_ok (w : World) (hg : GlobOK gl w) (Θ : Pred) : ConOK Tryz.prog mixed conT gl w Θ :=
  conOK_at (con := conT) (con_at w hg Θ)
end Go.Proofs.YtldkmeeogkelbadGreatDoor.Closed
