/-
  LinkNil returns true. No condition but that the package's variables hold what the program's text lays (the card ties them).
-/
import Derived.Test.YtldkmeeogkelbaaDoorLitR0
import Derived.Test.YtldkmeeogkelbaaDoorLitR1
import Derived.Test.YtldkmeeogkelbaaDoorLitR2
import Derived.Test.YtldkmeeogkelbaaDoorLitR3
import Derived.Test.YtldkmeeogkelbaaDoorLitR4
import Derived.Test.YtldkmeeogkelbaaDoorLitR5
import Derived.Test.YtldkmeeogkelbaaDoorLitR6
import Derived.Test.YtldkmeeogkelbaaDoorLitR7
import Derived.Test.YtldkmeeogkelbaaDoorLitR8
import Derived.Test.YtldkmeeogkelbaaDoorLitR9
import Derived.Test.YtldkmeeogkelbaaDoorLitR10
import Derived.Test.YtldkmeeogkelbaaDoorLitR11
import Derived.Test.YtldkmeeogkelbaaDoorLitR12
import Derived.Test.YtldkmeeogkelbaaDoorLitR13
import Derived.Test.YtldkmeeogkelbaaDoorLitR14
import Derived.Test.YtldkmeeogkelbaaDoorLitR15
import Derived.Test.YtldkmeeogkelbaaDoorLitR16
import Derived.Test.YtldkmeeogkelbaaDoorLitR17
import Derived.Test.YtldkmeeogkelbaaDoorLitR18
import Derived.Test.YtldkmeeogkelbaaDoorLitR19
import Derived.Test.YtldkmeeogkelbaaDoorLitR20
import Derived.Test.YtldkmeeogkelbaaDoorLitR21
import Derived.Test.YtldkmeeogkelbaaDoorLitR22
import Derived.Test.YtldkmeeogkelbaaDoorLitR23
import Derived.Test.YtldkmeeogkelbaaDoorLitR24
import Derived.Test.YtldkmeeogkelbaaDoorLitR25
import Derived.Test.YtldkmeeogkelbaaDoorLitR26
import Derived.Test.YtldkmeeogkelbaaDoorLitR27
import Derived.Test.YtldkmeeogkelbaaDoorLitR28
import Derived.Test.YtldkmeeogkelbaaDoorLitR29
import Derived.Test.YtldkmeeogkelbaaDoorLitR30
import Derived.Test.YtldkmeeogkelbaaDoorLitR31
import Derived.Test.YtldkmeeogkelbaaDoorLitR32
import Derived.Test.YtldkmeeogkelbaaDoorLitR33
import Derived.Test.YtldkmeeogkelbaaDoorLitR34
import Derived.Test.YtldkmeeogkelbaaDoorLitR35
import Derived.Test.YtldkmeeogkelbaaDoorCards
import Derived.Test.YtldkmeeogkelbaaDoorTie
import Derived.WalkKit
import Derived.ProofKit
import Derived.LaidMore
import Derived.OpenShut
import Derived.Stop.Joined
import Derived.SevenTiedAt
namespace Go.Proofs.YtldkmeeogkelbaaDoor.Closed
open Go.ChangeShapes Go.WideShapes Go.ChangeAt Go.RowKit Go.Sy Go.Sy.Sha

noncomputable def conT2 : Tr Con := ((conT.set 27 (some (conLit [l27_0, l27_1, l27_2, l27_3, l27_4, l27_5, l27_6, l27_7, l27_8, l27_9, l27_10, l27_11, l27_12, l27_13, l27_14, l27_15, l27_16, l27_17, l27_18, l27_19, l27_20, l27_21, l27_22, l27_23, l27_24, l27_25, l27_26, l27_27, l27_28, l27_29, l27_30, l27_31]))).set 38 (some (conLit [l38_0, l38_1, l38_2, l38_3])))
set_option maxRecDepth 1000000 in
theorem con_ok2 (w : World) (hg : GlobOK gl w) (Θ : Pred) : ConOK Tryd.prog mixed conT2 gl w Θ :=
  conOK_at (con := conT2) (conAt_set (litS_at (con1 := conT) hg (con_ok w hg Θ) (fun l hl => by
    simp only [List.mem_cons, List.not_mem_nil, or_false] at hl
    rcases hl with rfl | rfl | rfl | rfl
    · exact ⟨rfl, rfl, 10000, run_l38_0⟩
    · exact ⟨rfl, rfl, 10000, run_l38_1⟩
    · exact ⟨rfl, rfl, 10000, run_l38_2⟩
    · exact ⟨rfl, rfl, 10000, run_l38_3⟩)) (conAt_set (litS_at (con1 := conT) hg (con_ok w hg Θ) (fun l hl => by
    simp only [List.mem_cons, List.not_mem_nil, or_false] at hl
    rcases hl with rfl | rfl | rfl | rfl | rfl | rfl | rfl | rfl | rfl | rfl | rfl | rfl | rfl | rfl | rfl | rfl | rfl | rfl | rfl | rfl | rfl | rfl | rfl | rfl | rfl | rfl | rfl | rfl | rfl | rfl | rfl | rfl
    · exact ⟨rfl, rfl, 10000, run_l27_0⟩
    · exact ⟨rfl, rfl, 10000, run_l27_1⟩
    · exact ⟨rfl, rfl, 10000, run_l27_2⟩
    · exact ⟨rfl, rfl, 10000, run_l27_3⟩
    · exact ⟨rfl, rfl, 10000, run_l27_4⟩
    · exact ⟨rfl, rfl, 10000, run_l27_5⟩
    · exact ⟨rfl, rfl, 10000, run_l27_6⟩
    · exact ⟨rfl, rfl, 10000, run_l27_7⟩
    · exact ⟨rfl, rfl, 10000, run_l27_8⟩
    · exact ⟨rfl, rfl, 10000, run_l27_9⟩
    · exact ⟨rfl, rfl, 10000, run_l27_10⟩
    · exact ⟨rfl, rfl, 10000, run_l27_11⟩
    · exact ⟨rfl, rfl, 10000, run_l27_12⟩
    · exact ⟨rfl, rfl, 10000, run_l27_13⟩
    · exact ⟨rfl, rfl, 10000, run_l27_14⟩
    · exact ⟨rfl, rfl, 10000, run_l27_15⟩
    · exact ⟨rfl, rfl, 10000, run_l27_16⟩
    · exact ⟨rfl, rfl, 10000, run_l27_17⟩
    · exact ⟨rfl, rfl, 10000, run_l27_18⟩
    · exact ⟨rfl, rfl, 10000, run_l27_19⟩
    · exact ⟨rfl, rfl, 10000, run_l27_20⟩
    · exact ⟨rfl, rfl, 10000, run_l27_21⟩
    · exact ⟨rfl, rfl, 10000, run_l27_22⟩
    · exact ⟨rfl, rfl, 10000, run_l27_23⟩
    · exact ⟨rfl, rfl, 10000, run_l27_24⟩
    · exact ⟨rfl, rfl, 10000, run_l27_25⟩
    · exact ⟨rfl, rfl, 10000, run_l27_26⟩
    · exact ⟨rfl, rfl, 10000, run_l27_27⟩
    · exact ⟨rfl, rfl, 10000, run_l27_28⟩
    · exact ⟨rfl, rfl, 10000, run_l27_29⟩
    · exact ⟨rfl, rfl, 10000, run_l27_30⟩
    · exact ⟨rfl, rfl, 10000, run_l27_31⟩)) (con_at w hg Θ)))
theorem own : ownKnob Tryd.prog.godebug = none := by kernel_rfl
set_option maxRecDepth 1000000 in
theorem runs : (runX Tryd.prog conT2 gl 10000 (.call 3 []) isTrueK).triv = true := by kernel_rfl
theorem is_fn : hasFn Tryd.prog 3 = true := by kernel_rfl
set_option maxRecDepth 1000000 in
theorem calls (W : World) (hL : laidMetH Tryd.prog laidL W) : Calls Tryd.prog 3 #[] W fun e w' => e = .returned (.bool true) ∧ Below W.heap.size W w' :=
  closed_true mixed runs is_fn (glob_met (by kernel_rfl) (by kernel_rfl) hL) (con_ok2 W (glob_met (by kernel_rfl) (by kernel_rfl) hL) _)
theorem door_met (os : Os) (args : Array Value) : laidMetH Tryd.prog laidL ((World.doorLaid Tryd.prog 4000 os).forCall (fun _ _ => 0) ⟨#[], args, []⟩).memory :=
  laidMetH_of_parts3 (fuel := 8) (laidMet_of_run' 8 (by kernel_rfl) (by kernel_rfl)) (by kernel_rfl) (by kernel_rfl)
set_option maxRecDepth 100000 in
theorem lifted (os : Os) (started : os.Started) (H : Type) (enc : TypeId × Value → H) :
    ReturnsInHanded {} Tryd.checked os 3 .any (fun w args => (Rows.linkNilSpec.pre enc Tryd.prog Tryd.f3 [] false w args ∧ laidMetH Tryd.prog laidL w) ∧ sizedMet enc Tryd.prog Tryd.f3 (OpenSpec.ofChange Rows.linkNilSpec) false w args)
      (Rows.linkNilSpec.post enc Tryd.prog Tryd.f3 false true false false) := by
  refine returnsInHanded_of_change_and (C := Tryd.checked) (X := fun w _ => laidMetH Tryd.prog laidL w) (fun _ _ _ hh h => h.of_heap hh) own started (by kernel_rfl) Tryd.func3
    (ChangeSpec.witness_shaped (enc := enc) (C := Tryd.checked) (os := os) (X := fun w _ => laidMetH Tryd.prog laidL w) false (World.doorLaid Tryd.prog 4000 os) #[] 8 rfl (World.shaped_of_RefB (by kernel_rfl) (by kernel_rfl)) (by kernel_rfl) (by kernel_rfl) (by kernel_rfl) (door_met os _)) ?_
  intro W base args ds gs before hval0 hW _ _ hL _
  have hA := hW
  obtain ⟨p, q, hA, _⟩ := hA
  obtain ⟨hl1, hl2⟩ := trodAll_length hA
  have hd : ds = [] := List.eq_nil_of_length_eq_zero hl2
  have ha : args = #[] := by apply Array.ext'; exact List.eq_nil_of_length_eq_zero hl1
  subst hd ha
  refine (calls W hL).mono fun e W' ⟨he, hb⟩ => ?_
  subst he
  exact ⟨_, rfl, law_post (by kernel_rfl) rfl (by kernel_rfl) rfl (by kernel_rfl) hW rfl rfl rfl hb⟩

theorem over : Rows.linkNilRow.holds Tryd.pinned (OpenSpec.ofChange Rows.linkNilSpec) :=
  OpenClaim.holds_of_wide 3 Tryd.f3 rfl rfl rfl rfl rfl rfl rfl ⟨rfl, rfl, rfl, rfl, rfl⟩ rfl rfl rfl rfl rfl (by kernel_rfl) Tryd.func3 (by kernel_rfl)
    (of_decide_eq_true (by kernel_rfl)) (by unfold Func.isWrapper; first | (rw [if_pos (by decide +kernel)]; kernel_rfl) | (rw [if_neg (by decide +kernel)]; exact ⟨rfl, rfl⟩))
    (fun os started H enc _ => lifted os started H enc)

theorem proved : Rows.LinkNilCardSaid :=
  Claim7.holds_tied_plain_at .later [] [.data] true (true, "2d69973f10d200571bd4b9f441ea7bcfeddf47208f6257800727aad891fa8eb3") false
    over (fun _ h => by cases h) (by kernel_rfl) (fun _ h => by cases h) linkNil_row_tie rfl ⟨rfl, rfl⟩ (by kernel_rfl) rfl
    (fun f fn hf hfn => by
      obtain rfl : f = 3 := Option.some.inj ((show Tryd.prog.funcNamed Rows.linkNilRow.func = some 3 by kernel_rfl).symm.trans hf) |>.symm
      obtain rfl : fn = Tryd.f3 := (Option.some.inj (Tryd.func3.symm.trans hfn)).symm
      exact ⟨by kernel_rfl, fun j t ht => by
        have h0 : Tryd.f3.params = #[] := by kernel_rfl
        rw [h0] at ht; simp at ht⟩)
    (by kernel_rfl)
#print axioms proved
end Go.Proofs.YtldkmeeogkelbaaDoor.Closed
