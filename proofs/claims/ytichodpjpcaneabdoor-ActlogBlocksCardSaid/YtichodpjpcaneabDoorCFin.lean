/-
  ActlogBlocks returns true, for whatever arguments. No condition but that the package's variables hold what the program's text lays (the card ties them).
-/
import Derived.Test.YtichodpjpcaneabDoorCNeg
import Derived.Test.YtichodpjpcaneabDoorCR0
import Derived.Test.YtichodpjpcaneabDoorCR1
import Derived.Test.YtichodpjpcaneabDoorCR2
import Derived.Test.YtichodpjpcaneabDoorCR3
import Derived.Test.YtichodpjpcaneabDoorCR4
import Derived.Test.YtichodpjpcaneabDoorCR5
import Derived.Test.YtichodpjpcaneabDoorCR6
import Derived.Test.YtichodpjpcaneabDoorCR7
import Derived.Test.YtichodpjpcaneabDoorCards
import Derived.Test.YtichodpjpcaneabDoorTie
import Derived.WalkKit
import Derived.ProofKit
import Derived.LaidMore
import Derived.OpenShut
import Derived.Stop.Joined
import Derived.SevenTiedAt
namespace Go.Proofs.YtichodpjpcaneabDoor.Closed
open Go.ChangeShapes Go.WideShapes Go.ChangeAt Go.RowKit Go.Sy Go.Sy.Sha

theorem own : ownKnob Tryd.prog.godebug = none := by kernel_rfl
theorem parts : ∀ j : Nat, 0 ≤ j → j < 256 → Q (fr j) := all_lt p0 <| all_lt p1 <| all_lt p2 <| all_lt p3 <| all_lt p4 <| all_lt p5 <| all_lt p6 <| p7
set_option maxRecDepth 1000000 in
theorem all : Symb Tryd.prog mixed conK gl 3 (tmpls 0 shs) (shs.flatMap Sh.cs).length (facts 0 shs) := Symb.sub (Symb.rem 258 (Nat.le_of_ble_eq_true (show Nat.ble 259 nzs = true by kernel_rfl)) neg fun j hj => parts j (Nat.zero_le _) hj) kf_sub
theorem len_eq : Tryd.f3.params.toList.length = shs.length := by kernel_rfl
theorem shape : (Tryd.f3.params.toList.zip shs).all (fun p => shOK Tryd.prog p.1 p.2) = true := by kernel_rfl
theorem door_met (os : Os) (args : Array Value) : laidMetH Tryd.prog laidL ((World.doorLaid Tryd.prog 4000 os).forCall (fun _ _ => 0) ⟨#[], args, []⟩).memory :=
  laidMetH_of_parts3 (fuel := 8) (laidMet_of_run' 8 (by kernel_rfl) (by kernel_rfl)) (by kernel_rfl) (by kernel_rfl)
set_option maxRecDepth 100000 in
theorem lifted (os : Os) (started : os.Started) (H : Type) (enc : TypeId × Value → H) :
    ReturnsInHanded {} Tryd.checked os 3 .any (fun w args => (Rows.actlogBlocksSpec.pre enc Tryd.prog Tryd.f3 [] false w args ∧ laidMetH Tryd.prog laidL w) ∧ sizedMet enc Tryd.prog Tryd.f3 (OpenSpec.ofChange Rows.actlogBlocksSpec) false w args)
      (Rows.actlogBlocksSpec.post enc Tryd.prog Tryd.f3 false true false false) := by
  refine returnsInHanded_of_change_and (C := Tryd.checked) (X := fun w _ => laidMetH Tryd.prog laidL w) (fun _ _ _ hh h => h.of_heap hh) own started (by kernel_rfl) Tryd.func3
    (ChangeSpec.witness_shaped (enc := enc) (C := Tryd.checked) (os := os) (X := fun w _ => laidMetH Tryd.prog laidL w) false (World.doorLaid Tryd.prog 4000 os) #[.int .u64 0, .int .u16 0, .agg (Array.replicate 256 (.int .u8 0)), .int .i64 0, .int .u8 0] 8 rfl (World.shaped_of_RefB (by kernel_rfl) (by kernel_rfl)) (by kernel_rfl) (by kernel_rfl) (by kernel_rfl) (door_met os _)) ?_
  intro W base args ds gs before hval0 hW _ _ hL _
  have hA := hW
  obtain ⟨p, q, hA, _⟩ := hA
  obtain ⟨hl1, hl2⟩ := trodAll_length hA
  have hd : ∃ d0 d1 d2 d3 d4, ds = [d0, d1, d2, d3, d4] := by
    have : ds.length = 5 := hl2
    match ds, this with
    | [d0, d1, d2, d3, d4], _ => exact ⟨d0, d1, d2, d3, d4, rfl⟩
  obtain ⟨d0, d1, d2, d3, d4, rfl⟩ := hd
  refine (symb_calls (base := base) all len_eq shape hl1 (fun j t v h1 h2 => hval0 j t v ((Array.getElem?_toList (xs := Tryd.f3.params) (i := j)).symm.trans h1) h2) (glob_met (by kernel_rfl) (by kernel_rfl) hL) (fun Θ => conK_ok W (glob_met (by kernel_rfl) (by kernel_rfl) hL) Θ)).mono fun e W' ⟨he, hb⟩ => ?_
  subst he
  exact ⟨_, rfl, law_post (by kernel_rfl) rfl (by kernel_rfl) rfl (by kernel_rfl) hW rfl rfl rfl hb⟩

theorem over : Rows.actlogBlocksRow.holds Tryd.pinned (OpenSpec.ofChange Rows.actlogBlocksSpec) :=
  OpenClaim.holds_of_wide 3 Tryd.f3 rfl rfl rfl rfl rfl rfl rfl ⟨rfl, rfl, rfl, rfl, rfl⟩ rfl rfl rfl rfl rfl (by kernel_rfl) Tryd.func3 (by kernel_rfl)
    (of_decide_eq_true (by kernel_rfl)) (by unfold Func.isWrapper; first | (rw [if_pos (by decide +kernel)]; kernel_rfl) | (rw [if_neg (by decide +kernel)]; exact ⟨rfl, rfl⟩))
    (fun os started H enc _ => lifted os started H enc)

theorem proved : Rows.ActlogBlocksCardSaid :=
  Claim7.holds_tied_plain_at .later [] [.data] true (true, "7d15a3e995270826407097b65c3df44d3dcb4e595fd123bfe4e05ae3d793e46a") false
    over (fun _ h => by cases h) (by kernel_rfl) (fun _ h => by cases h) actlogBlocks_row_tie rfl ⟨rfl, rfl⟩ (by kernel_rfl) rfl
    (fun f fn hf hfn => by
      obtain rfl : f = 3 := Option.some.inj ((show Tryd.prog.funcNamed Rows.actlogBlocksRow.func = some 3 by kernel_rfl).symm.trans hf) |>.symm
      obtain rfl : fn = Tryd.f3 := (Option.some.inj (Tryd.func3.symm.trans hfn)).symm
      exact ⟨by kernel_rfl, fun j t ht => by
        have h0 : (Tryd.f3.params.toList.all fun t => !Tryd.pinned.checked.prog.wantsStandIn t) = true := by kernel_rfl
        have h1 := List.all_eq_true.1 h0 t (by rw [← Array.getElem?_toList] at ht; exact List.mem_of_getElem? ht)
        simpa using h1⟩)
    (by kernel_rfl)
#print axioms proved
end Go.Proofs.YtichodpjpcaneabDoor.Closed
