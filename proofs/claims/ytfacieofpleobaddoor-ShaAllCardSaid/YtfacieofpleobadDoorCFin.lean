/-
  ShaAll returns true. No condition but that the package's variables hold what the program's text lays (the card ties them).
-/
import Derived.Test.YtfacieofpleobadDoorShaP
import Derived.Test.YtfacieofpleobadDoorLenA0
import Derived.Test.YtfacieofpleobadDoorLenB0
import Derived.Test.YtfacieofpleobadDoorLenA1
import Derived.Test.YtfacieofpleobadDoorLenB1
import Derived.Test.YtfacieofpleobadDoorLenA2
import Derived.Test.YtfacieofpleobadDoorLenB2
import Derived.Test.YtfacieofpleobadDoorLenA3
import Derived.Test.YtfacieofpleobadDoorLenB3
import Derived.Test.YtfacieofpleobadDoorLenA4
import Derived.Test.YtfacieofpleobadDoorLenB4
import Derived.Test.YtfacieofpleobadDoorLenA5
import Derived.Test.YtfacieofpleobadDoorLenB5
import Derived.Test.YtfacieofpleobadDoorLenA6
import Derived.Test.YtfacieofpleobadDoorLenB6
import Derived.Test.YtfacieofpleobadDoorLenA7
import Derived.Test.YtfacieofpleobadDoorLenB7
import Derived.Test.YtfacieofpleobadDoorCards
import Derived.Test.YtfacieofpleobadDoorTie
import Derived.WalkKit
import Derived.ProofKit
import Derived.LaidMore
import Derived.OpenShut
import Derived.Stop.Joined
import Derived.SevenTiedAt
namespace Go.Proofs.YtfacieofpleobadDoor.Closed
open Go.ChangeShapes Go.WideShapes Go.ChangeAt Go.RowKit Go.Sy Go.Sy.Sha

theorem own : ownKnob Tryd.prog.godebug = none := by kernel_rfl
noncomputable def lens : List Nat := ([1, 2, 3, 4, 5, 6, 7, 8, 9, 10, 11, 12, 13, 14, 15, 16, 17, 18, 19, 20, 21, 22, 23, 24, 25] : List Nat) ++ ([26, 27, 28, 29, 30, 31, 32, 33, 34, 35, 36, 37, 38, 39, 40, 41, 42, 43, 44, 45, 46, 47, 48, 49, 50] : List Nat) ++ ([51, 52, 53, 54, 55, 56, 57, 58, 59, 60, 61, 62, 63, 64, 65, 66, 67, 68, 69, 70, 71, 72, 73, 74, 75] : List Nat) ++ ([76, 77, 78, 79, 80, 81, 82, 83, 84, 85, 86, 87, 88, 89, 90, 91, 92, 93, 94, 95, 96, 97, 98, 99, 100] : List Nat) ++ ([101, 102, 103, 104, 105, 106, 107, 108, 109, 110, 111, 112, 113, 114, 115, 116, 117, 118, 119, 120, 121, 122, 123, 124, 125] : List Nat) ++ ([126, 127, 128, 129, 130, 131, 132, 133, 134, 135, 136, 137, 138, 139, 140, 141, 142, 143, 144, 145, 146, 147, 148, 149, 150] : List Nat) ++ ([151, 152, 153, 154, 155, 156, 157, 158, 159, 160, 161, 162, 163, 164, 165, 166, 167, 168, 169, 170, 171, 172, 173, 174, 175] : List Nat) ++ ([176, 177, 178, 179, 180, 181, 182, 183, 184, 185, 186, 187, 188, 189, 190, 191, 192, 193, 194, 195, 196, 197, 198, 199, 200] : List Nat)
noncomputable def conT : Tr Con := ((Tr.nil.set 4 (some (conSum3 (cxR gl .nil) [3] lens))).set 5 (some (conSum3 (cxR gl .nil) [3] lens))).set 7 (some (conRes (constG (.agg (intsF .u32 kl)))))
theorem allA : BAll Tryd.prog gl 4 lens := (((((((allA_0 |> fun h => ball_app h allA_1) |> fun h => ball_app h allA_2) |> fun h => ball_app h allA_3) |> fun h => ball_app h allA_4) |> fun h => ball_app h allA_5) |> fun h => ball_app h allA_6) |> fun h => ball_app h allA_7)
theorem allB : BAll Tryd.prog gl 5 lens := (((((((allB_0 |> fun h => ball_app h allB_1) |> fun h => ball_app h allB_2) |> fun h => ball_app h allB_3) |> fun h => ball_app h allB_4) |> fun h => ball_app h allB_5) |> fun h => ball_app h allB_6) |> fun h => ball_app h allB_7)
theorem con_ok (w : World) (hg : GlobOK gl w) (Θ : Pred) : ConOK Tryd.prog mixed conT gl w Θ :=
  conOK_at (conAt_set (ConCl.at ⟨_, rfl, .inr ⟨is_const, const_ok w hg⟩⟩) (conAt_set (sum3_at (cx := cxR gl .nil) rfl rfl hg is_sumB nilB allB) (conAt_set (sum3_at (cx := cxR gl .nil) rfl rfl hg is_sum nilA allA) conAt_nil)))
set_option maxRecDepth 1000000 in
theorem runs : (runX Tryd.prog conT gl 10000 (.call 3 []) isTrueK).triv = true := by kernel_rfl
theorem is_fn : hasFn Tryd.prog 3 = true := by kernel_rfl
theorem calls (W : World) (hL : laidMetH Tryd.prog laidL W) : Calls Tryd.prog 3 #[] W fun e w' => e = .returned (.bool true) ∧ Below W.heap.size W w' :=
  closed_true mixed runs is_fn (glob_met (by kernel_rfl) (by kernel_rfl) hL) (con_ok W (glob_met (by kernel_rfl) (by kernel_rfl) hL) _)
theorem door_met (os : Os) (args : Array Value) : laidMetH Tryd.prog laidL ((World.doorLaid Tryd.prog 4000 os).forCall (fun _ _ => 0) ⟨#[], args, []⟩).memory :=
  laidMetH_of_parts3 (fuel := 8) (laidMet_of_run' 8 (by kernel_rfl) (by kernel_rfl)) (by kernel_rfl) (by kernel_rfl)
set_option maxRecDepth 100000 in
theorem lifted (os : Os) (started : os.Started) (H : Type) (enc : TypeId × Value → H) :
    ReturnsInHanded {} Tryd.checked os 3 .any (fun w args => (Rows.shaAllSpec.pre enc Tryd.prog Tryd.f3 [] false w args ∧ laidMetH Tryd.prog laidL w) ∧ sizedMet enc Tryd.prog Tryd.f3 (OpenSpec.ofChange Rows.shaAllSpec) false w args)
      (Rows.shaAllSpec.post enc Tryd.prog Tryd.f3 false true false false) := by
  refine returnsInHanded_of_change_and (C := Tryd.checked) (X := fun w _ => laidMetH Tryd.prog laidL w) (fun _ _ _ hh h => h.of_heap hh) own started (by kernel_rfl) Tryd.func3
    (ChangeSpec.witness_shaped (enc := enc) (C := Tryd.checked) (os := os) (X := fun w _ => laidMetH Tryd.prog laidL w) false (World.doorLaid Tryd.prog 4000 os) #[] 8 rfl (World.shaped_of_RefB (by kernel_rfl) (by kernel_rfl)) (by kernel_rfl) (by kernel_rfl) (by kernel_rfl) (door_met os _)) ?_
  intro W base args ds gs before hval0 hW _ _ hL _
  have hA := hW
  obtain ⟨p, q, hA, _⟩ := hA
  obtain ⟨hl1, hl2⟩ := trodAll_length hA
  have hd : ds = [] := List.eq_nil_of_length_eq_zero hl2
  have ha : args = #[] := by apply Array.ext'; exact List.eq_nil_of_length_eq_zero hl1
  subst hd ha
  refine (calls W hL).mono fun e W' ⟨he, hb⟩ => ?_
  subst he
  exact ⟨_, rfl, law_post (by kernel_rfl) rfl (by kernel_rfl) rfl (by kernel_rfl) hW rfl rfl rfl hb⟩

theorem over : Rows.shaAllRow.holds Tryd.pinned (OpenSpec.ofChange Rows.shaAllSpec) :=
  OpenClaim.holds_of_wide 3 Tryd.f3 rfl rfl rfl rfl rfl rfl rfl ⟨rfl, rfl, rfl, rfl, rfl⟩ rfl rfl rfl rfl rfl (by kernel_rfl) Tryd.func3 (by kernel_rfl)
    (of_decide_eq_true (by kernel_rfl)) (by unfold Func.isWrapper; first | (rw [if_pos (by decide +kernel)]; kernel_rfl) | (rw [if_neg (by decide +kernel)]; exact ⟨rfl, rfl⟩))
    (fun os started H enc _ => lifted os started H enc)

theorem proved : Rows.ShaAllCardSaid :=
  Claim7.holds_tied_plain_at .later [] [.data] true (true, "19eb1d967369073b9e5243a854e9a2658127aa90193182d9e001a78090e0932b") false
    over (fun _ h => by cases h) (by kernel_rfl) (fun _ h => by cases h) shaAll_row_tie rfl ⟨rfl, rfl⟩ (by kernel_rfl) rfl
    (fun f fn hf hfn => by
      obtain rfl : f = 3 := Option.some.inj ((show Tryd.prog.funcNamed Rows.shaAllRow.func = some 3 by kernel_rfl).symm.trans hf) |>.symm
      obtain rfl : fn = Tryd.f3 := (Option.some.inj (Tryd.func3.symm.trans hfn)).symm
      exact ⟨by kernel_rfl, fun j t ht => by
        have h0 : Tryd.f3.params = #[] := by kernel_rfl
        rw [h0] at ht; simp at ht⟩)
    (by kernel_rfl)
#print axioms proved
end Go.Proofs.YtfacieofpleobadDoor.Closed
