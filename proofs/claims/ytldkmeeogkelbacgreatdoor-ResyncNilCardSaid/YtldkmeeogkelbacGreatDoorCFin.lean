/-
  ResyncNil returns true. No condition but that the package's variables hold what the program's text lays (the card ties them).
-/
import Derived.Test.YtldkmeeogkelbacGreatDoorLitR0
import Derived.Test.YtldkmeeogkelbacGreatDoorLitR1
import Derived.Test.YtldkmeeogkelbacGreatDoorLitR2
import Derived.Test.YtldkmeeogkelbacGreatDoorLitR3
import Derived.Test.YtldkmeeogkelbacGreatDoorLitR4
import Derived.Test.YtldkmeeogkelbacGreatDoorLitR5
import Derived.Test.YtldkmeeogkelbacGreatDoorLitR6
import Derived.Test.YtldkmeeogkelbacGreatDoorLitR7
import Derived.Test.YtldkmeeogkelbacGreatDoorLitR8
import Derived.Test.YtldkmeeogkelbacGreatDoorLitR9
import Derived.Test.YtldkmeeogkelbacGreatDoorLitR10
import Derived.Test.YtldkmeeogkelbacGreatDoorLitR11
import Derived.Test.YtldkmeeogkelbacGreatDoorLitR12
import Derived.Test.YtldkmeeogkelbacGreatDoorLitR13
import Derived.Test.YtldkmeeogkelbacGreatDoorLitR14
import Derived.Test.YtldkmeeogkelbacGreatDoorLitR15
import Derived.Test.YtldkmeeogkelbacGreatDoorLitR16
import Derived.Test.YtldkmeeogkelbacGreatDoorLitR17
import Derived.Test.YtldkmeeogkelbacGreatDoorLitR18
import Derived.Test.YtldkmeeogkelbacGreatDoorCards
import Derived.Test.YtldkmeeogkelbacGreatDoorTie
import Derived.WalkKit
import Derived.ProofKit
import Derived.LaidMore
import Derived.OpenShut
import Derived.Stop.Joined
import Derived.SevenTiedAt
namespace Go.Proofs.YtldkmeeogkelbacGreatDoor.Closed
open Go.ChangeShapes Go.WideShapes Go.ChangeAt Go.RowKit Go.Sy Go.Sy.Sha

noncomputable def conT2 : Tr Con := ((((((conT.set 23 (some (conLit [l23_0, l23_1, l23_2, l23_3, l23_4, l23_5, l23_6, l23_7, l23_8, l23_9, l23_10, l23_11, l23_12]))).set 82 (some (conLit [l82_0]))).set 84 (some (conLit [l84_0]))).set 85 (some (conLit [l85_0]))).set 87 (some (conLit [l87_0]))).set 15 (some (conLit [l15_0, l15_1])))
set_option maxRecDepth 1000000 in
theorem con_ok2 (w : World) (hg : GlobOK gl w) (Θ : Pred) : ConOK Tryz.prog mixed conT2 gl w Θ :=
  conOK_at (con := conT2) (conAt_set (litS_at (con1 := conT) hg (con_ok w hg Θ) (fun l hl => by
    simp only [List.mem_cons, List.not_mem_nil, or_false] at hl
    rcases hl with rfl | rfl
    · exact ⟨rfl, rfl, 10000, run_l15_0⟩
    · exact ⟨rfl, rfl, 10000, run_l15_1⟩)) (conAt_set (litS_at (con1 := conT) hg (con_ok w hg Θ) (fun l hl => by
    obtain rfl : l = l87_0 := by simpa using hl
    exact ⟨rfl, rfl, 10000, run_l87_0⟩)) (conAt_set (litS_at (con1 := conT) hg (con_ok w hg Θ) (fun l hl => by
    obtain rfl : l = l85_0 := by simpa using hl
    exact ⟨rfl, rfl, 10000, run_l85_0⟩)) (conAt_set (litS_at (con1 := conT) hg (con_ok w hg Θ) (fun l hl => by
    obtain rfl : l = l84_0 := by simpa using hl
    exact ⟨rfl, rfl, 10000, run_l84_0⟩)) (conAt_set (litS_at (con1 := conT) hg (con_ok w hg Θ) (fun l hl => by
    obtain rfl : l = l82_0 := by simpa using hl
    exact ⟨rfl, rfl, 10000, run_l82_0⟩)) (conAt_set (litS_at (con1 := conT) hg (con_ok w hg Θ) (fun l hl => by
    simp only [List.mem_cons, List.not_mem_nil, or_false] at hl
    rcases hl with rfl | rfl | rfl | rfl | rfl | rfl | rfl | rfl | rfl | rfl | rfl | rfl | rfl
    · exact ⟨rfl, rfl, 10000, run_l23_0⟩
    · exact ⟨rfl, rfl, 10000, run_l23_1⟩
    · exact ⟨rfl, rfl, 10000, run_l23_2⟩
    · exact ⟨rfl, rfl, 10000, run_l23_3⟩
    · exact ⟨rfl, rfl, 10000, run_l23_4⟩
    · exact ⟨rfl, rfl, 10000, run_l23_5⟩
    · exact ⟨rfl, rfl, 10000, run_l23_6⟩
    · exact ⟨rfl, rfl, 10000, run_l23_7⟩
    · exact ⟨rfl, rfl, 10000, run_l23_8⟩
    · exact ⟨rfl, rfl, 10000, run_l23_9⟩
    · exact ⟨rfl, rfl, 10000, run_l23_10⟩
    · exact ⟨rfl, rfl, 10000, run_l23_11⟩
    · exact ⟨rfl, rfl, 10000, run_l23_12⟩)) (con_at w hg Θ)))))))
theorem own : ownKnob Tryz.prog.godebug = none := by kernel_rfl
set_option maxRecDepth 1000000 in
theorem runs : (runX Tryz.prog conT2 gl 10000 (.call 3 []) isTrueK).triv = true := by kernel_rfl
theorem is_fn : hasFn Tryz.prog 3 = true := by kernel_rfl
set_option maxRecDepth 1000000 in
theorem calls (W : World) (hL : laidMetH Tryz.prog laidL W) : Calls Tryz.prog 3 #[] W fun e w' => e = .returned (.bool true) ∧ Below W.heap.size W w' :=
  closed_true mixed runs is_fn (glob_met (by kernel_rfl) (by kernel_rfl) hL) (con_ok2 W (glob_met (by kernel_rfl) (by kernel_rfl) hL) _)
theorem door_met (os : Os) (args : Array Value) : laidMetH Tryz.prog laidL ((World.doorLaid Tryz.prog 4000 os).forCall (fun _ _ => 0) ⟨#[], args, []⟩).memory :=
  laidMetH_of_parts3 (fuel := 8) (laidMet_of_run' 8 (by kernel_rfl) (by kernel_rfl)) (by kernel_rfl) (by kernel_rfl)
set_option maxRecDepth 100000 in
theorem lifted (os : Os) (started : os.Started) (H : Type) (enc : TypeId × Value → H) :
    ReturnsInHanded {} Tryz.checked os 3 .any (fun w args => (Rows.resyncNilSpec.pre enc Tryz.prog Tryz.f3 [] false w args ∧ laidMetH Tryz.prog laidL w) ∧ sizedMet enc Tryz.prog Tryz.f3 (OpenSpec.ofChange Rows.resyncNilSpec) false w args)
      (Rows.resyncNilSpec.post enc Tryz.prog Tryz.f3 false true false false) := by
  refine returnsInHanded_of_change_and (C := Tryz.checked) (X := fun w _ => laidMetH Tryz.prog laidL w) (fun _ _ _ hh h => h.of_heap hh) own started (by kernel_rfl) Tryz.func3
    (ChangeSpec.witness_shaped (enc := enc) (C := Tryz.checked) (os := os) (X := fun w _ => laidMetH Tryz.prog laidL w) false (World.doorLaid Tryz.prog 4000 os) #[] 8 rfl (World.shaped_of_RefB (by kernel_rfl) (by kernel_rfl)) (by kernel_rfl) (by kernel_rfl) (by kernel_rfl) (door_met os _)) ?_
  intro W base args ds gs before hval0 hW _ _ hL _
  have hA := hW
  obtain ⟨p, q, hA, _⟩ := hA
  obtain ⟨hl1, hl2⟩ := trodAll_length hA
  have hd : ds = [] := List.eq_nil_of_length_eq_zero hl2
  have ha : args = #[] := by apply Array.ext'; exact List.eq_nil_of_length_eq_zero hl1
  subst hd ha
  refine (calls W hL).mono fun e W' ⟨he, hb⟩ => ?_
  subst he
  exact ⟨_, rfl, law_post (by kernel_rfl) rfl (by kernel_rfl) rfl (by kernel_rfl) hW rfl rfl rfl hb⟩

theorem over : Rows.resyncNilRow.holds Tryz.pinned (OpenSpec.ofChange Rows.resyncNilSpec) :=
  OpenClaim.holds_of_wide 3 Tryz.f3 rfl rfl rfl rfl rfl rfl rfl ⟨rfl, rfl, rfl, rfl, rfl⟩ rfl rfl rfl rfl rfl (by kernel_rfl) Tryz.func3 (by kernel_rfl)
    (of_decide_eq_true (by kernel_rfl)) (by unfold Func.isWrapper; first | (rw [if_pos (by decide +kernel)]; kernel_rfl) | (rw [if_neg (by decide +kernel)]; exact ⟨rfl, rfl⟩))
    (fun os started H enc _ => lifted os started H enc)

theorem proved : Rows.ResyncNilCardSaid :=
  Claim7.holds_tied_plain_at .later [] [.data, .data, .data] true (true, "e60ba48266eb34f90ad548ac2ae87c56e239a61a9ab9e7ce4db0ad94b131ab43") false
    over (fun _ h => by cases h) (by kernel_rfl) (fun _ h => by cases h) resyncNil_row_tie rfl ⟨rfl, rfl⟩ (by kernel_rfl) rfl
    (fun f fn hf hfn => by
      obtain rfl : f = 3 := Option.some.inj ((show Tryz.prog.funcNamed Rows.resyncNilRow.func = some 3 by kernel_rfl).symm.trans hf) |>.symm
      obtain rfl : fn = Tryz.f3 := (Option.some.inj (Tryz.func3.symm.trans hfn)).symm
      exact ⟨by kernel_rfl, fun j t ht => by
        have h0 : Tryz.f3.params = #[] := by kernel_rfl
        rw [h0] at ht; simp at ht⟩)
    (by kernel_rfl)
#print axioms proved
end Go.Proofs.YtldkmeeogkelbacGreatDoor.Closed
