import Derived.Test.YtichodpjpcaneabDoorProg
import Derived.Test.YtichodpjpcaneabDoorRows
import Derived.Test.YtichodpjpcaneabDoorSyLast
import Derived.ProofKit
/-! Presses, the constants, sums, of this program. -/
namespace Go.Proofs.YtichodpjpcaneabDoor.Closed
open Go Go.Sy Go.Sy.Sha Go.RowKit
abbrev kl : List Nat := klN
def laidL {H : Type} : List (String × DataW H) := [("gemel/sha.primes", Rows.laid_gemel_sha_primes)]
noncomputable def gl : Tr (Tr AV) := globOf Tryd.prog laidL
noncomputable def behind (tm : Tm) (s p : Nat) : List (Nat × Nat × Nat) := match slot tm (pth s) with
  | .int _ u => natCase u [] fun j => [(p, j, 1)]
  | _ => []
noncomputable def lsA : Tr LSpec := ((((Tr.nil.set 155652 (some (.nm [7, 8, 9, 10, 11, 12, 13, 14] fun _ => []))).set 200708 (some (.nm [] fun tm => behind tm 10 3))).set 200713 (some (.nm [] fun tm => behind tm 5 3))))
noncomputable def lsC : Tr LSpec := Tr.nil.set 147461 (some (.inv [3] [(1, 0, 64)] [4, 7, 8, 9, 10, 11, 12, 13, 14, 15, 16, 17, 18, 19, 20, 21, 22, 23, 24, 25, 26, 27, 28, 29, 30, 31, 32] 0 (fun _ _ => []) (.zv 0)))
theorem mixed : Tryd.prog.follows .mixedOrders = true := by kernel_rfl
theorem kl_len : kl.length = 64 := rfl
theorem kl_lt : ∀ x ∈ kl, x < 4294967296 := by decide
set_option maxRecDepth 1000000 in
theorem pressA : (runPress wayA kl Tryd.prog 100000 38 lsA).triv = true := by kernel_rfl
theorem is_press : hasFn Tryd.prog 38 = true := by kernel_rfl
theorem is_mul : hasFn Tryd.prog 47 = true := by kernel_rfl
theorem is_const : hasFn Tryd.prog 36 = true := by kernel_rfl
theorem is_sum : hasFn Tryd.prog 23 = true := by kernel_rfl
theorem mulT : (runX Tryd.prog .nil .nil 100000 (.call 47 [.sym .u64 (.zv 0), .sym .u64 (.zv 1)]) mulK .nil .nil stM).triv = true := by kernel_rfl
set_option maxRecDepth 1000000 in
theorem constT : vcSame (runX Tryd.prog ((Tr.nil.set 47 (some (conRel gmul 2 3))).set 48 (some (conRel gsub 2 4))) gl 100000 (.call 36 []) constK lsC) constVC = true := by kernel_rfl
set_option maxRecDepth 1000000 in
theorem rootsT : (rootsN primesN 35).map (· % 4294967296) = kl := by kernel_rfl
theorem const_ok (w : World) (hg : GlobOK gl w) : ResOK Tryd.prog mixed gl w 36 (constG (.agg (intsF .u32 kl))) :=
  const_res hg is_const is_mul mulT Tryd.func48 (by kernel_rfl) (by kernel_rfl) (by kernel_rfl) (by kernel_rfl) constT rootsT kl_lt
set_option maxRecDepth 1000000 in
theorem runA_248 : vcSame (runSum Tryd.prog gl 100000 23 248 (mkA 38 36 kl gl)) (sumVC 248) = true := by kernel_rfl
set_option maxRecDepth 1000000 in
theorem sumA_248 : BytesAt Tryd.prog gl 23 248 (sumN kl 248) :=
  sum_bytes (hm := mixed) is_sum runA_248 (fun w ro hg => mkA_ok kl_lt is_press (fun {_ _ _ _ _ _ _ _ _ _ _} => press_calls mixed wayA_ok is_press kl_len kl_lt pressA) is_const const_ok w ro hg)
noncomputable def lsB : Tr LSpec := ((Tr.nil.set 159758 (some (.nm [10, 11, 12, 13, 14, 15, 16, 17] fun _ => []))).set 159749 (some (.nm [] fun tm => behind tm 7 6)))
set_option maxRecDepth 1000000 in
theorem pressB : (runPressB wayB kl Tryd.prog 100000 39 lsB).triv = true := by kernel_rfl
theorem is_pressB : hasFn Tryd.prog 39 = true := by kernel_rfl
theorem is_sumB : hasFn Tryd.prog 24 = true := by kernel_rfl
set_option maxRecDepth 1000000 in
theorem runB_248 : vcSame (runSum Tryd.prog gl 100000 24 248 (mkB 39 gl)) (sumVC 248) = true := by kernel_rfl
set_option maxRecDepth 1000000 in
theorem sumB_248 : BytesAt Tryd.prog gl 24 248 (sumN kl 248) :=
  sum_bytes (hm := mixed) is_sumB runB_248 (fun w ro hg => mkB_ok is_pressB (fun {_ _ _ _ _ _} => pressB_calls mixed wayB_ok is_pressB kl_len kl_lt pressB) w ro hg)
noncomputable def conT : Tr Con := ((Tr.nil.set 23 (some (conSum2 (cxR gl .nil) [248] [248]))).set 24 (some (conSum2 (cxR gl .nil) [248] [248]))).set 36 (some (conRes (constG (.agg (intsF .u32 kl)))))
set_option maxRecDepth 1000000 in
theorem con_at (w : World) (hg : GlobOK gl w) (Θ : Pred) : ∀ f c, conT.get f = some c → ConAt Tryd.prog mixed gl w Θ .nil .nil f c :=
  conAt_set (ConCl.at ⟨_, rfl, .inr ⟨is_const, const_ok w hg⟩⟩) (conAt_set (sum2_at (cx := cxR gl .nil) rfl rfl hg is_sumB (fun n hn => by
    obtain rfl : n = 248 := by simpa using hn
    exact sumB_248)) (conAt_set (sum2_at (cx := cxR gl .nil) rfl rfl hg is_sum (fun n hn => by
    obtain rfl : n = 248 := by simpa using hn
    exact sumA_248)) conAt_nil))
set_option maxRecDepth 1000000 in
theorem con_ok (w : World) (hg : GlobOK gl w) (Θ : Pred) : ConOK Tryd.prog mixed conT gl w Θ :=
  conOK_at (con_at w hg Θ)
set_option maxRecDepth 1000000 in
theorem knownT : (runX Tryd.prog conT gl 10000 (.call 8 []) (isValK (.bool true))).triv = true := by kernel_rfl
theorem is_known : hasFn Tryd.prog 8 = true := by kernel_rfl
noncomputable def conK : Tr Con := conT.set 8 (some (conRes (constG (.bool true))))
set_option maxRecDepth 1000000 in
theorem conK_ok (w : World) (hg : GlobOK gl w) (Θ : Pred) : ConOK Tryd.prog mixed conK gl w Θ :=
  conOK_at (conAt_set (ConCl.at ⟨_, rfl, .inr ⟨is_known, res_const knownT is_known ⟨.bool true, fun _ => rfl⟩ hg (fun w' hk => con_ok w' (hg.kept hk) (fun _ _ => True))⟩⟩) (con_at w hg Θ))
def shs : List Sh := [.one (.i .u64), .one (.i .u16), .agg (List.replicate 256 (.i .u8)), .one (.i .i64), .one (.i .u8)]
noncomputable def kf : List T := [.cmp .geq (.zv 0) (.z (minOf .u64)), .cmp .leq (.zv 0) (.z (maxOf .u64)), .cmp .geq (.zv 1) (.z (minOf .u16)), .cmp .leq (.zv 1) (.z (maxOf .u16)), .cmp .geq (.zv 6) (.z (minOf .u8)), .cmp .leq (.zv 6) (.z (maxOf .u8)), .cmp .geq (.zv 7) (.z (minOf .u8)), .cmp .leq (.zv 7) (.z (maxOf .u8)), .cmp .geq (.zv 8) (.z (minOf .u8)), .cmp .leq (.zv 8) (.z (maxOf .u8)), .cmp .geq (.zv 9) (.z (minOf .u8)), .cmp .leq (.zv 9) (.z (maxOf .u8)), .cmp .geq (.zv 10) (.z (minOf .u8)), .cmp .leq (.zv 10) (.z (maxOf .u8)), .cmp .geq (.zv 11) (.z (minOf .u8)), .cmp .leq (.zv 11) (.z (maxOf .u8)), .cmp .geq (.zv 12) (.z (minOf .u8)), .cmp .leq (.zv 12) (.z (maxOf .u8)), .cmp .geq (.zv 13) (.z (minOf .u8)), .cmp .leq (.zv 13) (.z (maxOf .u8)), .cmp .geq (.zv 14) (.z (minOf .u8)), .cmp .leq (.zv 14) (.z (maxOf .u8)), .cmp .geq (.zv 15) (.z (minOf .u8)), .cmp .leq (.zv 15) (.z (maxOf .u8)), .cmp .geq (.zv 258) (.z (minOf .i64)), .cmp .leq (.zv 258) (.z (maxOf .i64)), .cmp .geq (.zv 259) (.z (minOf .u8)), .cmp .leq (.zv 259) (.z (maxOf .u8))]
set_option maxRecDepth 1000000 in
theorem kf_sub : subF kf (facts 0 shs) = true := by kernel_rfl
theorem is_fn : hasFn Tryd.prog 3 = true := by kernel_rfl
noncomputable abbrev nzs : Nat := (shs.flatMap Sh.cs).length
abbrev Q (fs : List T) : Prop := Symb Tryd.prog mixed conK gl 3 (tmpls 0 shs) nzs fs
noncomputable abbrev fr (j : Nat) : List T := .cmp .eql (.bin .rem .i64 (.zv 258) (.z (.ofNat 256))) (.z (.ofNat j)) :: .cmp .geq (.zv 258) (.z (.ofNat 0)) :: kf
noncomputable abbrev fneg : List T := .cmp .lss (.zv 258) (.z (.ofNat 0)) :: kf
end Go.Proofs.YtichodpjpcaneabDoor.Closed
