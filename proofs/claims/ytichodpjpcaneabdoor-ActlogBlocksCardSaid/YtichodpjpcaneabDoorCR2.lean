import Derived.Test.YtichodpjpcaneabDoorShaP
namespace Go.Proofs.YtichodpjpcaneabDoor.Closed
open Go Go.Sy Go.Sy.Sha Go.RowKit
set_option maxRecDepth 1000000 in
theorem r64 : Q (fr 64) := Symb.run (n := 10000) (by kernel_rfl) is_fn
set_option maxRecDepth 1000000 in
theorem r65 : Q (fr 65) := Symb.run (n := 10000) (by kernel_rfl) is_fn
set_option maxRecDepth 1000000 in
theorem r66 : Q (fr 66) := Symb.run (n := 10000) (by kernel_rfl) is_fn
set_option maxRecDepth 1000000 in
theorem r67 : Q (fr 67) := Symb.run (n := 10000) (by kernel_rfl) is_fn
set_option maxRecDepth 1000000 in
theorem r68 : Q (fr 68) := Symb.run (n := 10000) (by kernel_rfl) is_fn
set_option maxRecDepth 1000000 in
theorem r69 : Q (fr 69) := Symb.run (n := 10000) (by kernel_rfl) is_fn
set_option maxRecDepth 1000000 in
theorem r70 : Q (fr 70) := Symb.run (n := 10000) (by kernel_rfl) is_fn
set_option maxRecDepth 1000000 in
theorem r71 : Q (fr 71) := Symb.run (n := 10000) (by kernel_rfl) is_fn
set_option maxRecDepth 1000000 in
theorem r72 : Q (fr 72) := Symb.run (n := 10000) (by kernel_rfl) is_fn
set_option maxRecDepth 1000000 in
theorem r73 : Q (fr 73) := Symb.run (n := 10000) (by kernel_rfl) is_fn
set_option maxRecDepth 1000000 in
theorem r74 : Q (fr 74) := Symb.run (n := 10000) (by kernel_rfl) is_fn
set_option maxRecDepth 1000000 in
theorem r75 : Q (fr 75) := Symb.run (n := 10000) (by kernel_rfl) is_fn
set_option maxRecDepth 1000000 in
theorem r76 : Q (fr 76) := Symb.run (n := 10000) (by kernel_rfl) is_fn
set_option maxRecDepth 1000000 in
theorem r77 : Q (fr 77) := Symb.run (n := 10000) (by kernel_rfl) is_fn
set_option maxRecDepth 1000000 in
theorem r78 : Q (fr 78) := Symb.run (n := 10000) (by kernel_rfl) is_fn
set_option maxRecDepth 1000000 in
theorem r79 : Q (fr 79) := Symb.run (n := 10000) (by kernel_rfl) is_fn
set_option maxRecDepth 1000000 in
theorem r80 : Q (fr 80) := Symb.run (n := 10000) (by kernel_rfl) is_fn
set_option maxRecDepth 1000000 in
theorem r81 : Q (fr 81) := Symb.run (n := 10000) (by kernel_rfl) is_fn
set_option maxRecDepth 1000000 in
theorem r82 : Q (fr 82) := Symb.run (n := 10000) (by kernel_rfl) is_fn
set_option maxRecDepth 1000000 in
theorem r83 : Q (fr 83) := Symb.run (n := 10000) (by kernel_rfl) is_fn
set_option maxRecDepth 1000000 in
theorem r84 : Q (fr 84) := Symb.run (n := 10000) (by kernel_rfl) is_fn
set_option maxRecDepth 1000000 in
theorem r85 : Q (fr 85) := Symb.run (n := 10000) (by kernel_rfl) is_fn
set_option maxRecDepth 1000000 in
theorem r86 : Q (fr 86) := Symb.run (n := 10000) (by kernel_rfl) is_fn
set_option maxRecDepth 1000000 in
theorem r87 : Q (fr 87) := Symb.run (n := 10000) (by kernel_rfl) is_fn
set_option maxRecDepth 1000000 in
theorem r88 : Q (fr 88) := Symb.run (n := 10000) (by kernel_rfl) is_fn
set_option maxRecDepth 1000000 in
theorem r89 : Q (fr 89) := Symb.run (n := 10000) (by kernel_rfl) is_fn
set_option maxRecDepth 1000000 in
theorem r90 : Q (fr 90) := Symb.run (n := 10000) (by kernel_rfl) is_fn
set_option maxRecDepth 1000000 in
theorem r91 : Q (fr 91) := Symb.run (n := 10000) (by kernel_rfl) is_fn
set_option maxRecDepth 1000000 in
theorem r92 : Q (fr 92) := Symb.run (n := 10000) (by kernel_rfl) is_fn
set_option maxRecDepth 1000000 in
theorem r93 : Q (fr 93) := Symb.run (n := 10000) (by kernel_rfl) is_fn
set_option maxRecDepth 1000000 in
theorem r94 : Q (fr 94) := Symb.run (n := 10000) (by kernel_rfl) is_fn
set_option maxRecDepth 1000000 in
theorem r95 : Q (fr 95) := Symb.run (n := 10000) (by kernel_rfl) is_fn
theorem p2 : ∀ j : Nat, 64 ≤ j → j < 96 → Q (fr j) :=
  all_lt (b := 65) (all_one (Q := fun j => Q (fr j)) r64) <| all_lt (b := 66) (all_one (Q := fun j => Q (fr j)) r65) <| all_lt (b := 67) (all_one (Q := fun j => Q (fr j)) r66) <| all_lt (b := 68) (all_one (Q := fun j => Q (fr j)) r67) <| all_lt (b := 69) (all_one (Q := fun j => Q (fr j)) r68) <| all_lt (b := 70) (all_one (Q := fun j => Q (fr j)) r69) <| all_lt (b := 71) (all_one (Q := fun j => Q (fr j)) r70) <| all_lt (b := 72) (all_one (Q := fun j => Q (fr j)) r71) <| all_lt (b := 73) (all_one (Q := fun j => Q (fr j)) r72) <| all_lt (b := 74) (all_one (Q := fun j => Q (fr j)) r73) <| all_lt (b := 75) (all_one (Q := fun j => Q (fr j)) r74) <| all_lt (b := 76) (all_one (Q := fun j => Q (fr j)) r75) <| all_lt (b := 77) (all_one (Q := fun j => Q (fr j)) r76) <| all_lt (b := 78) (all_one (Q := fun j => Q (fr j)) r77) <| all_lt (b := 79) (all_one (Q := fun j => Q (fr j)) r78) <| all_lt (b := 80) (all_one (Q := fun j => Q (fr j)) r79) <| all_lt (b := 81) (all_one (Q := fun j => Q (fr j)) r80) <| all_lt (b := 82) (all_one (Q := fun j => Q (fr j)) r81) <| all_lt (b := 83) (all_one (Q := fun j => Q (fr j)) r82) <| all_lt (b := 84) (all_one (Q := fun j => Q (fr j)) r83) <| all_lt (b := 85) (all_one (Q := fun j => Q (fr j)) r84) <| all_lt (b := 86) (all_one (Q := fun j => Q (fr j)) r85) <| all_lt (b := 87) (all_one (Q := fun j => Q (fr j)) r86) <| all_lt (b := 88) (all_one (Q := fun j => Q (fr j)) r87) <| all_lt (b := 89) (all_one (Q := fun j => Q (fr j)) r88) <| all_lt (b := 90) (all_one (Q := fun j => Q (fr j)) r89) <| all_lt (b := 91) (all_one (Q := fun j => Q (fr j)) r90) <| all_lt (b := 92) (all_one (Q := fun j => Q (fr j)) r91) <| all_lt (b := 93) (all_one (Q := fun j => Q (fr j)) r92) <| all_lt (b := 94) (all_one (Q := fun j => Q (fr j)) r93) <| all_lt (b := 95) (all_one (Q := fun j => Q (fr j)) r94) <| all_one (Q := fun j => Q (fr j)) r95
end Go.Proofs.YtichodpjpcaneabDoor.Closed
