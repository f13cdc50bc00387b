import Derived.Test.YtldkmeeogkelbaaDoorProg
import Derived.Test.YtldkmeeogkelbaaDoorRows
import Derived.Test.YtldkmeeogkelbaaDoorSyLast
import Derived.ProofKit
/-! Presses, the constants, sums, of this program. -/
namespace Go.Proofs.YtldkmeeogkelbaaDoor.Closed
open Go Go.Sy Go.Sy.Sha Go.RowKit
abbrev kl : List Nat := klN
def laidL {H : Type} : List (String × DataW H) := [("gemel/sha.primes", Rows.laid_gemel_sha_primes)]
noncomputable def gl : Tr (Tr AV) := globOf Tryd.prog laidL
noncomputable def behind (tm : Tm) (s p : Nat) : List (Nat × Nat × Nat) := match slot tm (pth s) with
  | .int _ u => natCase u [] fun j => [(p, j, 1)]
  | _ => []
noncomputable def lsA : Tr LSpec := ((((Tr.nil.set 270340 (some (.nm [7, 8, 9, 10, 11, 12, 13, 14] fun _ => []))).set 294916 (some (.nm [] fun tm => behind tm 10 3))).set 294921 (some (.nm [] fun tm => behind tm 5 3))))
noncomputable def lsC : Tr LSpec := Tr.nil.set 262149 (some (.inv [3] [(1, 0, 64)] [4, 7, 8, 9, 10, 11, 12, 13, 14, 15, 16, 17, 18, 19, 20, 21, 22, 23, 24, 25, 26, 27, 28, 29, 30, 31, 32] 0 (fun _ _ => []) (.zv 0)))
theorem mixed : Tryd.prog.follows .mixedOrders = true := by kernel_rfl
theorem kl_len : kl.length = 64 := rfl
theorem kl_lt : ∀ x ∈ kl, x < 4294967296 := by decide
set_option maxRecDepth 1000000 in
theorem pressA : (runPress wayA kl Tryd.prog 100000 66 lsA).triv = true := by kernel_rfl
theorem is_press : hasFn Tryd.prog 66 = true := by kernel_rfl
theorem is_mul : hasFn Tryd.prog 70 = true := by kernel_rfl
theorem is_const : hasFn Tryd.prog 64 = true := by kernel_rfl
theorem is_sum : hasFn Tryd.prog 50 = true := by kernel_rfl
theorem mulT : (runX Tryd.prog .nil .nil 100000 (.call 70 [.sym .u64 (.zv 0), .sym .u64 (.zv 1)]) mulK .nil .nil stM).triv = true := by kernel_rfl
set_option maxRecDepth 1000000 in
theorem constT : vcSame (runX Tryd.prog ((Tr.nil.set 70 (some (conRel gmul 2 3))).set 71 (some (conRel gsub 2 4))) gl 100000 (.call 64 []) constK lsC) constVC = true := by kernel_rfl
set_option maxRecDepth 1000000 in
theorem rootsT : (rootsN primesN 35).map (· % 4294967296) = kl := by kernel_rfl
theorem const_ok (w : World) (hg : GlobOK gl w) : ResOK Tryd.prog mixed gl w 64 (constG (.agg (intsF .u32 kl))) :=
  const_res hg is_const is_mul mulT Tryd.func71 (by kernel_rfl) (by kernel_rfl) (by kernel_rfl) (by kernel_rfl) constT rootsT kl_lt
set_option maxRecDepth 1000000 in
theorem runA_19 : vcSame (runSum Tryd.prog gl 100000 50 19 (mkA 66 64 kl gl)) (sumVC 19) = true := by kernel_rfl
set_option maxRecDepth 1000000 in
theorem sumA_19 : BytesAt Tryd.prog gl 50 19 (sumN kl 19) :=
  sum_bytes (hm := mixed) is_sum runA_19 (fun w ro hg => mkA_ok kl_lt is_press (fun {_ _ _ _ _ _ _ _ _ _ _} => press_calls mixed wayA_ok is_press kl_len kl_lt pressA) is_const const_ok w ro hg)
set_option maxRecDepth 1000000 in
theorem runA_38 : vcSame (runSum Tryd.prog gl 100000 50 38 (mkA 66 64 kl gl)) (sumVC 38) = true := by kernel_rfl
set_option maxRecDepth 1000000 in
theorem sumA_38 : BytesAt Tryd.prog gl 50 38 (sumN kl 38) :=
  sum_bytes (hm := mixed) is_sum runA_38 (fun w ro hg => mkA_ok kl_lt is_press (fun {_ _ _ _ _ _ _ _ _ _ _} => press_calls mixed wayA_ok is_press kl_len kl_lt pressA) is_const const_ok w ro hg)
noncomputable def lsB : Tr LSpec := ((Tr.nil.set 200718 (some (.nm [10, 11, 12, 13, 14, 15, 16, 17] fun _ => []))).set 200709 (some (.nm [] fun tm => behind tm 7 6)))
set_option maxRecDepth 1000000 in
theorem pressB : (runPressB wayB kl Tryd.prog 100000 49 lsB).triv = true := by kernel_rfl
theorem is_pressB : hasFn Tryd.prog 49 = true := by kernel_rfl
theorem is_sumB : hasFn Tryd.prog 37 = true := by kernel_rfl
set_option maxRecDepth 1000000 in
theorem runB_19 : vcSame (runSum Tryd.prog gl 100000 37 19 (mkB 49 gl)) (sumVC 19) = true := by kernel_rfl
set_option maxRecDepth 1000000 in
theorem sumB_19 : BytesAt Tryd.prog gl 37 19 (sumN kl 19) :=
  sum_bytes (hm := mixed) is_sumB runB_19 (fun w ro hg => mkB_ok is_pressB (fun {_ _ _ _ _ _} => pressB_calls mixed wayB_ok is_pressB kl_len kl_lt pressB) w ro hg)
set_option maxRecDepth 1000000 in
theorem runB_38 : vcSame (runSum Tryd.prog gl 100000 37 38 (mkB 49 gl)) (sumVC 38) = true := by kernel_rfl
set_option maxRecDepth 1000000 in
theorem sumB_38 : BytesAt Tryd.prog gl 37 38 (sumN kl 38) :=
  sum_bytes (hm := mixed) is_sumB runB_38 (fun w ro hg => mkB_ok is_pressB (fun {_ _ _ _ _ _} => pressB_calls mixed wayB_ok is_pressB kl_len kl_lt pressB) w ro hg)
noncomputable def conT : Tr Con := ((Tr.nil.set 50 (some (conSum2 (cxR gl .nil) [19, 38] [19, 38]))).set 37 (some (conSum2 (cxR gl .nil) [19, 38] [19, 38]))).set 64 (some (conRes (constG (.agg (intsF .u32 kl)))))
set_option maxRecDepth 1000000 in
theorem con_at (w : World) (hg : GlobOK gl w) (Θ : Pred) : ∀ f c, conT.get f = some c → ConAt Tryd.prog mixed gl w Θ .nil .nil f c :=
  (conAt_set (ConCl.at ⟨_, rfl, .inr ⟨is_const, const_ok w hg⟩⟩) (conAt_set (sum2_at (cx := cxR gl .nil) rfl rfl hg is_sumB (fun n hn => by
    simp only [List.mem_cons, List.not_mem_nil, or_false] at hn
    rcases hn with rfl | rfl
    · exact sumB_19
    · exact sumB_38)) (conAt_set (sum2_at (cx := cxR gl .nil) rfl rfl hg is_sum (fun n hn => by
    simp only [List.mem_cons, List.not_mem_nil, or_false] at hn
    rcases hn with rfl | rfl
    · exact sumA_19
    · exact sumA_38)) conAt_nil)))
set_option maxRecDepth 1000000 in
theorem con_ok (w : World) (hg : GlobOK gl w) (Θ : Pred) : ConOK Tryd.prog mixed conT gl w Θ :=
  conOK_at (con := conT) (con_at w hg Θ)
end Go.Proofs.YtldkmeeogkelbaaDoor.Closed
