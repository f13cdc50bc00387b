/-
  StoreNil returns true. No condition but that the package's variables hold what the program's text lays (the card ties them).
-/
import Derived.Test.YtldkmeeogkelbabGreatDoorLitR0
import Derived.Test.YtldkmeeogkelbabGreatDoorLitR1
import Derived.Test.YtldkmeeogkelbabGreatDoorLitR2
import Derived.Test.YtldkmeeogkelbabGreatDoorLitR3
import Derived.Test.YtldkmeeogkelbabGreatDoorLitR4
import Derived.Test.YtldkmeeogkelbabGreatDoorLitR5
import Derived.Test.YtldkmeeogkelbabGreatDoorLitR6
import Derived.Test.YtldkmeeogkelbabGreatDoorLitR7
import Derived.Test.YtldkmeeogkelbabGreatDoorLitR8
import Derived.Test.YtldkmeeogkelbabGreatDoorLitR9
import Derived.Test.YtldkmeeogkelbabGreatDoorLitR10
import Derived.Test.YtldkmeeogkelbabGreatDoorLitR11
import Derived.Test.YtldkmeeogkelbabGreatDoorLitR12
import Derived.Test.YtldkmeeogkelbabGreatDoorLitR13
import Derived.Test.YtldkmeeogkelbabGreatDoorLitR14
import Derived.Test.YtldkmeeogkelbabGreatDoorLitR15
import Derived.Test.YtldkmeeogkelbabGreatDoorLitR16
import Derived.Test.YtldkmeeogkelbabGreatDoorLitR17
import Derived.Test.YtldkmeeogkelbabGreatDoorLitR18
import Derived.Test.YtldkmeeogkelbabGreatDoorLitR19
import Derived.Test.YtldkmeeogkelbabGreatDoorLitR20
import Derived.Test.YtldkmeeogkelbabGreatDoorLitR21
import Derived.Test.YtldkmeeogkelbabGreatDoorLitR22
import Derived.Test.YtldkmeeogkelbabGreatDoorLitR23
import Derived.Test.YtldkmeeogkelbabGreatDoorLitR24
import Derived.Test.YtldkmeeogkelbabGreatDoorCards
import Derived.Test.YtldkmeeogkelbabGreatDoorTie
import Derived.WalkKit
import Derived.ProofKit
import Derived.LaidMore
import Derived.OpenShut
import Derived.Stop.Joined
import Derived.SevenTiedAt
namespace Go.Proofs.YtldkmeeogkelbabGreatDoor.Closed
open Go.ChangeShapes Go.WideShapes Go.ChangeAt Go.RowKit Go.Sy Go.Sy.Sha

noncomputable def conT2 : Tr Con := ((((((conT.set 89 (some (conLit [l89_0, l89_1, l89_2, l89_3, l89_4, l89_5, l89_6, l89_7, l89_8, l89_9, l89_10, l89_11, l89_12]))).set 46 (some (conLit [l46_0, l46_1]))).set 38 (some (conLit [l38_0, l38_1, l38_2]))).set 39 (some (conLit [l39_0, l39_1, l39_2]))).set 41 (some (conLit [l41_0, l41_1, l41_2]))).set 31 (some (conLit [l31_0])))
set_option maxRecDepth 1000000 in
theorem con_ok2 (w : World) (hg : GlobOK gl w) (Θ : Pred) : ConOK Tryz.prog mixed conT2 gl w Θ :=
  conOK_at (con := conT2) (conAt_set (litS_at (con1 := conT) hg (con_ok w hg Θ) (fun l hl => by
    obtain rfl : l = l31_0 := by simpa using hl
    exact ⟨rfl, rfl, 10000, run_l31_0⟩)) (conAt_set (litS_at (con1 := conT) hg (con_ok w hg Θ) (fun l hl => by
    simp only [List.mem_cons, List.not_mem_nil, or_false] at hl
    rcases hl with rfl | rfl | rfl
    · exact ⟨rfl, rfl, 10000, run_l41_0⟩
    · exact ⟨rfl, rfl, 10000, run_l41_1⟩
    · exact ⟨rfl, rfl, 10000, run_l41_2⟩)) (conAt_set (litS_at (con1 := conT) hg (con_ok w hg Θ) (fun l hl => by
    simp only [List.mem_cons, List.not_mem_nil, or_false] at hl
    rcases hl with rfl | rfl | rfl
    · exact ⟨rfl, rfl, 10000, run_l39_0⟩
    · exact ⟨rfl, rfl, 10000, run_l39_1⟩
    · exact ⟨rfl, rfl, 10000, run_l39_2⟩)) (conAt_set (litS_at (con1 := conT) hg (con_ok w hg Θ) (fun l hl => by
    simp only [List.mem_cons, List.not_mem_nil, or_false] at hl
    rcases hl with rfl | rfl | rfl
    · exact ⟨rfl, rfl, 10000, run_l38_0⟩
    · exact ⟨rfl, rfl, 10000, run_l38_1⟩
    · exact ⟨rfl, rfl, 10000, run_l38_2⟩)) (conAt_set (litS_at (con1 := conT) hg (con_ok w hg Θ) (fun l hl => by
    simp only [List.mem_cons, List.not_mem_nil, or_false] at hl
    rcases hl with rfl | rfl
    · exact ⟨rfl, rfl, 10000, run_l46_0⟩
    · exact ⟨rfl, rfl, 10000, run_l46_1⟩)) (conAt_set (litS_at (con1 := conT) hg (con_ok w hg Θ) (fun l hl => by
    simp only [List.mem_cons, List.not_mem_nil, or_false] at hl
    rcases hl with rfl | rfl | rfl | rfl | rfl | rfl | rfl | rfl | rfl | rfl | rfl | rfl | rfl
    · exact ⟨rfl, rfl, 10000, run_l89_0⟩
    · exact ⟨rfl, rfl, 10000, run_l89_1⟩
    · exact ⟨rfl, rfl, 10000, run_l89_2⟩
    · exact ⟨rfl, rfl, 10000, run_l89_3⟩
    · exact ⟨rfl, rfl, 10000, run_l89_4⟩
    · exact ⟨rfl, rfl, 10000, run_l89_5⟩
    · exact ⟨rfl, rfl, 10000, run_l89_6⟩
    · exact ⟨rfl, rfl, 10000, run_l89_7⟩
    · exact ⟨rfl, rfl, 10000, run_l89_8⟩
    · exact ⟨rfl, rfl, 10000, run_l89_9⟩
    · exact ⟨rfl, rfl, 10000, run_l89_10⟩
    · exact ⟨rfl, rfl, 10000, run_l89_11⟩
    · exact ⟨rfl, rfl, 10000, run_l89_12⟩)) (con_at w hg Θ)))))))
theorem own : ownKnob Tryz.prog.godebug = none := by kernel_rfl
set_option maxRecDepth 1000000 in
theorem runs : (runX Tryz.prog conT2 gl 10000 (.call 3 []) isTrueK).triv = true := by kernel_rfl
theorem is_fn : hasFn Tryz.prog 3 = true := by kernel_rfl
set_option maxRecDepth 1000000 in
theorem calls (W : World) (hL : laidMetH Tryz.prog laidL W) : Calls Tryz.prog 3 #[] W fun e w' => e = .returned (.bool true) ∧ Below W.heap.size W w' :=
  closed_true mixed runs is_fn (glob_met (by kernel_rfl) (by kernel_rfl) hL) (con_ok2 W (glob_met (by kernel_rfl) (by kernel_rfl) hL) _)
theorem door_met (os : Os) (args : Array Value) : laidMetH Tryz.prog laidL ((World.doorLaid Tryz.prog 4000 os).forCall (fun _ _ => 0) ⟨#[], args, []⟩).memory :=
  laidMetH_of_parts3 (fuel := 8) (laidMet_of_run' 8 (by kernel_rfl) (by kernel_rfl)) (by kernel_rfl) (by kernel_rfl)
set_option maxRecDepth 100000 in
theorem lifted (os : Os) (started : os.Started) (H : Type) (enc : TypeId × Value → H) :
    ReturnsInHanded {} Tryz.checked os 3 .any (fun w args => (Rows.storeNilSpec.pre enc Tryz.prog Tryz.f3 [] false w args ∧ laidMetH Tryz.prog laidL w) ∧ sizedMet enc Tryz.prog Tryz.f3 (OpenSpec.ofChange Rows.storeNilSpec) false w args)
      (Rows.storeNilSpec.post enc Tryz.prog Tryz.f3 false true false false) := by
  refine returnsInHanded_of_change_and (C := Tryz.checked) (X := fun w _ => laidMetH Tryz.prog laidL w) (fun _ _ _ hh h => h.of_heap hh) own started (by kernel_rfl) Tryz.func3
    (ChangeSpec.witness_shaped (enc := enc) (C := Tryz.checked) (os := os) (X := fun w _ => laidMetH Tryz.prog laidL w) false (World.doorLaid Tryz.prog 4000 os) #[] 8 rfl (World.shaped_of_RefB (by kernel_rfl) (by kernel_rfl)) (by kernel_rfl) (by kernel_rfl) (by kernel_rfl) (door_met os _)) ?_
  intro W base args ds gs before hval0 hW _ _ hL _
  have hA := hW
  obtain ⟨p, q, hA, _⟩ := hA
  obtain ⟨hl1, hl2⟩ := trodAll_length hA
  have hd : ds = [] := List.eq_nil_of_length_eq_zero hl2
  have ha : args = #[] := by apply Array.ext'; exact List.eq_nil_of_length_eq_zero hl1
  subst hd ha
  refine (calls W hL).mono fun e W' ⟨he, hb⟩ => ?_
  subst he
  exact ⟨_, rfl, law_post (by kernel_rfl) rfl (by kernel_rfl) rfl (by kernel_rfl) hW rfl rfl rfl hb⟩

theorem over : Rows.storeNilRow.holds Tryz.pinned (OpenSpec.ofChange Rows.storeNilSpec) :=
  OpenClaim.holds_of_wide 3 Tryz.f3 rfl rfl rfl rfl rfl rfl rfl ⟨rfl, rfl, rfl, rfl, rfl⟩ rfl rfl rfl rfl rfl (by kernel_rfl) Tryz.func3 (by kernel_rfl)
    (of_decide_eq_true (by kernel_rfl)) (by unfold Func.isWrapper; first | (rw [if_pos (by decide +kernel)]; kernel_rfl) | (rw [if_neg (by decide +kernel)]; exact ⟨rfl, rfl⟩))
    (fun os started H enc _ => lifted os started H enc)

theorem proved : Rows.StoreNilCardSaid :=
  Claim7.holds_tied_plain_at .later [] [.data] true (true, "e2d333f23a28f40f9e3f0aa5ad3b9a28a268107cd996190b5320c9562f86dd4f") false
    over (fun _ h => by cases h) (by kernel_rfl) (fun _ h => by cases h) storeNil_row_tie rfl ⟨rfl, rfl⟩ (by kernel_rfl) rfl
    (fun f fn hf hfn => by
      obtain rfl : f = 3 := Option.some.inj ((show Tryz.prog.funcNamed Rows.storeNilRow.func = some 3 by kernel_rfl).symm.trans hf) |>.symm
      obtain rfl : fn = Tryz.f3 := (Option.some.inj (Tryz.func3.symm.trans hfn)).symm
      exact ⟨by kernel_rfl, fun j t ht => by
        have h0 : Tryz.f3.params = #[] := by kernel_rfl
        rw [h0] at ht; simp at ht⟩)
    (by kernel_rfl)
#print axioms proved
end Go.Proofs.YtldkmeeogkelbabGreatDoor.Closed
