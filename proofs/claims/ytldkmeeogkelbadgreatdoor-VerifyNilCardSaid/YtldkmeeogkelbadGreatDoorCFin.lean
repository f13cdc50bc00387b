/-
  VerifyNil returns true. No condition but that the package's variables hold what the program's text lays (the card ties them).
-/
import Derived.Test.YtldkmeeogkelbadGreatDoorLitR0
import Derived.Test.YtldkmeeogkelbadGreatDoorLitR1
import Derived.Test.YtldkmeeogkelbadGreatDoorLitR3
import Derived.Test.YtldkmeeogkelbadGreatDoorLitR4
import Derived.Test.YtldkmeeogkelbadGreatDoorLitR6
import Derived.Test.YtldkmeeogkelbadGreatDoorLitR7
import Derived.Test.YtldkmeeogkelbadGreatDoorLitR8
import Derived.Test.YtldkmeeogkelbadGreatDoorLitR9
import Derived.Test.YtldkmeeogkelbadGreatDoorLitR11
import Derived.Test.YtldkmeeogkelbadGreatDoorLitR12
import Derived.Test.YtldkmeeogkelbadGreatDoorLitR14
import Derived.Test.YtldkmeeogkelbadGreatDoorLitR15
import Derived.Test.YtldkmeeogkelbadGreatDoorLitR16
import Derived.Test.YtldkmeeogkelbadGreatDoorLitR17
import Derived.Test.YtldkmeeogkelbadGreatDoorLitR18
import Derived.Test.YtldkmeeogkelbadGreatDoorLitR19
import Derived.Test.YtldkmeeogkelbadGreatDoorLitR20
import Derived.Test.YtldkmeeogkelbadGreatDoorLitR21
import Derived.Test.YtldkmeeogkelbadGreatDoorLitR22
import Derived.Test.YtldkmeeogkelbadGreatDoorLitR23
import Derived.Test.YtldkmeeogkelbadGreatDoorLitR24
import Derived.Test.YtldkmeeogkelbadGreatDoorLitR25
import Derived.Test.YtldkmeeogkelbadGreatDoorLitR26
import Derived.Test.YtldkmeeogkelbadGreatDoorLitR27
import Derived.Test.YtldkmeeogkelbadGreatDoorLitR28
import Derived.Test.YtldkmeeogkelbadGreatDoorLitR29
import Derived.Test.YtldkmeeogkelbadGreatDoorLitR30
import Derived.Test.YtldkmeeogkelbadGreatDoorLitR31
import Derived.Test.YtldkmeeogkelbadGreatDoorLitR32
import Derived.Test.YtldkmeeogkelbadGreatDoorLitR33
import Derived.Test.YtldkmeeogkelbadGreatDoorLitR34
import Derived.Test.YtldkmeeogkelbadGreatDoorLitR35
import Derived.Test.YtldkmeeogkelbadGreatDoorLitR36
import Derived.Test.YtldkmeeogkelbadGreatDoorLitR37
import Derived.Test.YtldkmeeogkelbadGreatDoorLitR38
import Derived.Test.YtldkmeeogkelbadGreatDoorLitR39
import Derived.Test.YtldkmeeogkelbadGreatDoorLitR40
import Derived.Test.YtldkmeeogkelbadGreatDoorLitR41
import Derived.Test.YtldkmeeogkelbadGreatDoorLitR42
import Derived.Test.YtldkmeeogkelbadGreatDoorLitR43
import Derived.Test.YtldkmeeogkelbadGreatDoorLitR44
import Derived.Test.YtldkmeeogkelbadGreatDoorCards
import Derived.Test.YtldkmeeogkelbadGreatDoorTie
import Derived.WalkKit
import Derived.ProofKit
import Derived.LaidMore
import Derived.OpenShut
import Derived.Stop.Joined
import Derived.SevenTiedAt
namespace Go.Proofs.YtldkmeeogkelbadGreatDoor.Closed
open Go.ChangeShapes Go.WideShapes Go.ChangeAt Go.RowKit Go.Sy Go.Sy.Sha

noncomputable def conT2 : Tr Con := (((((((((conT.set 166 (some (conLit [l166_0, l166_1, l166_2, l166_3, l166_4, l166_5, l166_6, l166_7, l166_8, l166_9, l166_10, l166_11, l166_12, l166_13, l166_14]))).set 57 (some (conLit [l57_0, l57_1, l57_2, l57_3]))).set 58 (some (conLit [l58_0, l58_1, l58_2, l58_3]))).set 59 (some (conLit [l59_0, l59_1, l59_2, l59_3]))).set 60 (some (conLit [l60_0, l60_1, l60_2, l60_3]))).set 61 (some (conLit [l61_0, l61_1, l61_2, l61_3]))).set 62 (some (conLit [l62_0, l62_1, l62_2, l62_3]))).set 63 (some (conLit [l63_0, l63_1, l63_2, l63_3]))).set 8 (some (conLit [l8_0, l8_1])))
set_option maxRecDepth 1000000 in
theorem con_ok2 (w : World) (hg : GlobOK gl w) (Θ : Pred) : ConOK Tryz.prog mixed conT2 gl w Θ :=
  conOK_at (con := conT2) (conAt_set (litS_at (con1 := conT) hg (con_ok w hg Θ) (fun l hl => by
    simp only [List.mem_cons, List.not_mem_nil, or_false] at hl
    rcases hl with rfl | rfl
    · exact ⟨rfl, rfl, 10000, run_l8_0⟩
    · exact ⟨rfl, rfl, 10000, run_l8_1⟩)) (conAt_set (litS_at (con1 := conT) hg (con_ok w hg Θ) (fun l hl => by
    simp only [List.mem_cons, List.not_mem_nil, or_false] at hl
    rcases hl with rfl | rfl | rfl | rfl
    · exact ⟨rfl, rfl, 10000, run_l63_0⟩
    · exact ⟨rfl, rfl, 10000, run_l63_1⟩
    · exact ⟨rfl, rfl, 10000, run_l63_2⟩
    · exact ⟨rfl, rfl, 10000, run_l63_3⟩)) (conAt_set (litS_at (con1 := conT) hg (con_ok w hg Θ) (fun l hl => by
    simp only [List.mem_cons, List.not_mem_nil, or_false] at hl
    rcases hl with rfl | rfl | rfl | rfl
    · exact ⟨rfl, rfl, 10000, run_l62_0⟩
    · exact ⟨rfl, rfl, 10000, run_l62_1⟩
    · exact ⟨rfl, rfl, 10000, run_l62_2⟩
    · exact ⟨rfl, rfl, 10000, run_l62_3⟩)) (conAt_set (litS_at (con1 := conT) hg (con_ok w hg Θ) (fun l hl => by
    simp only [List.mem_cons, List.not_mem_nil, or_false] at hl
    rcases hl with rfl | rfl | rfl | rfl
    · exact ⟨rfl, rfl, 10000, run_l61_0⟩
    · exact ⟨rfl, rfl, 10000, run_l61_1⟩
    · exact ⟨rfl, rfl, 10000, run_l61_2⟩
    · exact ⟨rfl, rfl, 10000, run_l61_3⟩)) (conAt_set (litS_at (con1 := conT) hg (con_ok w hg Θ) (fun l hl => by
    simp only [List.mem_cons, List.not_mem_nil, or_false] at hl
    rcases hl with rfl | rfl | rfl | rfl
    · exact ⟨rfl, rfl, 10000, run_l60_0⟩
    · exact ⟨rfl, rfl, 10000, run_l60_1⟩
    · exact ⟨rfl, rfl, 10000, run_l60_2⟩
    · exact ⟨rfl, rfl, 10000, run_l60_3⟩)) (conAt_set (litS_at (con1 := conT) hg (con_ok w hg Θ) (fun l hl => by
    simp only [List.mem_cons, List.not_mem_nil, or_false] at hl
    rcases hl with rfl | rfl | rfl | rfl
    · exact ⟨rfl, rfl, 10000, run_l59_0⟩
    · exact ⟨rfl, rfl, 10000, run_l59_1⟩
    · exact ⟨rfl, rfl, 10000, run_l59_2⟩
    · exact ⟨rfl, rfl, 10000, run_l59_3⟩)) (conAt_set (litS_at (con1 := conT) hg (con_ok w hg Θ) (fun l hl => by
    simp only [List.mem_cons, List.not_mem_nil, or_false] at hl
    rcases hl with rfl | rfl | rfl | rfl
    · exact ⟨rfl, rfl, 10000, run_l58_0⟩
    · exact ⟨rfl, rfl, 10000, run_l58_1⟩
    · exact ⟨rfl, rfl, 10000, run_l58_2⟩
    · exact ⟨rfl, rfl, 10000, run_l58_3⟩)) (conAt_set (litS_at (con1 := conT) hg (con_ok w hg Θ) (fun l hl => by
    simp only [List.mem_cons, List.not_mem_nil, or_false] at hl
    rcases hl with rfl | rfl | rfl | rfl
    · exact ⟨rfl, rfl, 10000, run_l57_0⟩
    · exact ⟨rfl, rfl, 10000, run_l57_1⟩
    · exact ⟨rfl, rfl, 10000, run_l57_2⟩
    · exact ⟨rfl, rfl, 10000, run_l57_3⟩)) (conAt_set (litS_at (con1 := conT) hg (con_ok w hg Θ) (fun l hl => by
    simp only [List.mem_cons, List.not_mem_nil, or_false] at hl
    rcases hl with rfl | rfl | rfl | rfl | rfl | rfl | rfl | rfl | rfl | rfl | rfl | rfl | rfl | rfl | rfl
    · exact ⟨rfl, rfl, 10000, run_l166_0⟩
    · exact ⟨rfl, rfl, 10000, run_l166_1⟩
    · exact ⟨rfl, rfl, 10000, run_l166_2⟩
    · exact ⟨rfl, rfl, 10000, run_l166_3⟩
    · exact ⟨rfl, rfl, 10000, run_l166_4⟩
    · exact ⟨rfl, rfl, 10000, run_l166_5⟩
    · exact ⟨rfl, rfl, 10000, run_l166_6⟩
    · exact ⟨rfl, rfl, 10000, run_l166_7⟩
    · exact ⟨rfl, rfl, 10000, run_l166_8⟩
    · exact ⟨rfl, rfl, 10000, run_l166_9⟩
    · exact ⟨rfl, rfl, 10000, run_l166_10⟩
    · exact ⟨rfl, rfl, 10000, run_l166_11⟩
    · exact ⟨rfl, rfl, 10000, run_l166_12⟩
    · exact ⟨rfl, rfl, 10000, run_l166_13⟩
    · exact ⟨rfl, rfl, 10000, run_l166_14⟩)) (con_at w hg Θ))))))))))
theorem own : ownKnob Tryz.prog.godebug = none := by kernel_rfl
set_option maxRecDepth 1000000 in
theorem runs : (runX Tryz.prog conT2 gl 10000 (.call 3 []) isTrueK).triv = true := by kernel_rfl
theorem is_fn : hasFn Tryz.prog 3 = true := by kernel_rfl
set_option maxRecDepth 1000000 in
theorem calls (W : World) (hL : laidMetH Tryz.prog laidL W) : Calls Tryz.prog 3 #[] W fun e w' => e = .returned (.bool true) ∧ Below W.heap.size W w' :=
  closed_true mixed runs is_fn (glob_met (by kernel_rfl) (by kernel_rfl) hL) (con_ok2 W (glob_met (by kernel_rfl) (by kernel_rfl) hL) _)
theorem door_met (os : Os) (args : Array Value) : laidMetH Tryz.prog laidL ((World.doorLaid Tryz.prog 4000 os).forCall (fun _ _ => 0) ⟨#[], args, []⟩).memory :=
  laidMetH_of_parts3 (fuel := 8) (laidMet_of_run' 8 (by kernel_rfl) (by kernel_rfl)) (by kernel_rfl) (by kernel_rfl)
set_option maxRecDepth 100000 in
theorem lifted (os : Os) (started : os.Started) (H : Type) (enc : TypeId × Value → H) :
    ReturnsInHanded {} Tryz.checked os 3 .any (fun w args => (Rows.verifyNilSpec.pre enc Tryz.prog Tryz.f3 [] false w args ∧ laidMetH Tryz.prog laidL w) ∧ sizedMet enc Tryz.prog Tryz.f3 (OpenSpec.ofChange Rows.verifyNilSpec) false w args)
      (Rows.verifyNilSpec.post enc Tryz.prog Tryz.f3 false true false false) := by
  refine returnsInHanded_of_change_and (C := Tryz.checked) (X := fun w _ => laidMetH Tryz.prog laidL w) (fun _ _ _ hh h => h.of_heap hh) own started (by kernel_rfl) Tryz.func3
    (ChangeSpec.witness_shaped (enc := enc) (C := Tryz.checked) (os := os) (X := fun w _ => laidMetH Tryz.prog laidL w) false (World.doorLaid Tryz.prog 4000 os) #[] 8 rfl (World.shaped_of_RefB (by kernel_rfl) (by kernel_rfl)) (by kernel_rfl) (by kernel_rfl) (by kernel_rfl) (door_met os _)) ?_
  intro W base args ds gs before hval0 hW _ _ hL _
  have hA := hW
  obtain ⟨p, q, hA, _⟩ := hA
  obtain ⟨hl1, hl2⟩ := trodAll_length hA
  have hd : ds = [] := List.eq_nil_of_length_eq_zero hl2
  have ha : args = #[] := by apply Array.ext'; exact List.eq_nil_of_length_eq_zero hl1
  subst hd ha
  refine (calls W hL).mono fun e W' ⟨he, hb⟩ => ?_
  subst he
  exact ⟨_, rfl, law_post (by kernel_rfl) rfl (by kernel_rfl) rfl (by kernel_rfl) hW rfl rfl rfl hb⟩

theorem over : Rows.verifyNilRow.holds Tryz.pinned (OpenSpec.ofChange Rows.verifyNilSpec) :=
  OpenClaim.holds_of_wide 3 Tryz.f3 rfl rfl rfl rfl rfl rfl rfl ⟨rfl, rfl, rfl, rfl, rfl⟩ rfl rfl rfl rfl rfl (by kernel_rfl) Tryz.func3 (by kernel_rfl)
    (of_decide_eq_true (by kernel_rfl)) (by unfold Func.isWrapper; first | (rw [if_pos (by decide +kernel)]; kernel_rfl) | (rw [if_neg (by decide +kernel)]; exact ⟨rfl, rfl⟩))
    (fun os started H enc _ => lifted os started H enc)

theorem proved : Rows.VerifyNilCardSaid :=
  Claim7.holds_tied_plain_at .later [] [.data, .data, .data] true (true, "2d7af0fc1a1146e56e5d1b5a453936dae7b4f1a81b4d2ad415c9d4c6cdcfa3c9") false
    over (fun _ h => by cases h) (by kernel_rfl) (fun _ h => by cases h) verifyNil_row_tie rfl ⟨rfl, rfl⟩ (by kernel_rfl) rfl
    (fun f fn hf hfn => by
      obtain rfl : f = 3 := Option.some.inj ((show Tryz.prog.funcNamed Rows.verifyNilRow.func = some 3 by kernel_rfl).symm.trans hf) |>.symm
      obtain rfl : fn = Tryz.f3 := (Option.some.inj (Tryz.func3.symm.trans hfn)).symm
      exact ⟨by kernel_rfl, fun j t ht => by
        have h0 : Tryz.f3.params = #[] := by kernel_rfl
        rw [h0] at ht; simp at ht⟩)
    (by kernel_rfl)
#print axioms proved
end Go.Proofs.YtldkmeeogkelbadGreatDoor.Closed
