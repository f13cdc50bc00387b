import Derived.Test.YtichodpjpcaneabDoorShaP
namespace Go.Proofs.YtichodpjpcaneabDoor.Closed
open Go Go.Sy Go.Sy.Sha Go.RowKit
set_option maxRecDepth 1000000 in
theorem r96 : Q (fr 96) := Symb.run (n := 10000) (by kernel_rfl) is_fn
set_option maxRecDepth 1000000 in
theorem r97 : Q (fr 97) := Symb.run (n := 10000) (by kernel_rfl) is_fn
set_option maxRecDepth 1000000 in
theorem r98 : Q (fr 98) := Symb.run (n := 10000) (by kernel_rfl) is_fn
set_option maxRecDepth 1000000 in
theorem r99 : Q (fr 99) := Symb.run (n := 10000) (by kernel_rfl) is_fn
set_option maxRecDepth 1000000 in
theorem r100 : Q (fr 100) := Symb.run (n := 10000) (by kernel_rfl) is_fn
set_option maxRecDepth 1000000 in
theorem r101 : Q (fr 101) := Symb.run (n := 10000) (by kernel_rfl) is_fn
set_option maxRecDepth 1000000 in
theorem r102 : Q (fr 102) := Symb.run (n := 10000) (by kernel_rfl) is_fn
set_option maxRecDepth 1000000 in
theorem r103 : Q (fr 103) := Symb.run (n := 10000) (by kernel_rfl) is_fn
set_option maxRecDepth 1000000 in
theorem r104 : Q (fr 104) := Symb.run (n := 10000) (by kernel_rfl) is_fn
set_option maxRecDepth 1000000 in
theorem r105 : Q (fr 105) := Symb.run (n := 10000) (by kernel_rfl) is_fn
set_option maxRecDepth 1000000 in
theorem r106 : Q (fr 106) := Symb.run (n := 10000) (by kernel_rfl) is_fn
set_option maxRecDepth 1000000 in
theorem r107 : Q (fr 107) := Symb.run (n := 10000) (by kernel_rfl) is_fn
set_option maxRecDepth 1000000 in
theorem r108 : Q (fr 108) := Symb.run (n := 10000) (by kernel_rfl) is_fn
set_option maxRecDepth 1000000 in
theorem r109 : Q (fr 109) := Symb.run (n := 10000) (by kernel_rfl) is_fn
set_option maxRecDepth 1000000 in
theorem r110 : Q (fr 110) := Symb.run (n := 10000) (by kernel_rfl) is_fn
set_option maxRecDepth 1000000 in
theorem r111 : Q (fr 111) := Symb.run (n := 10000) (by kernel_rfl) is_fn
set_option maxRecDepth 1000000 in
theorem r112 : Q (fr 112) := Symb.run (n := 10000) (by kernel_rfl) is_fn
set_option maxRecDepth 1000000 in
theorem r113 : Q (fr 113) := Symb.run (n := 10000) (by kernel_rfl) is_fn
set_option maxRecDepth 1000000 in
theorem r114 : Q (fr 114) := Symb.run (n := 10000) (by kernel_rfl) is_fn
set_option maxRecDepth 1000000 in
theorem r115 : Q (fr 115) := Symb.run (n := 10000) (by kernel_rfl) is_fn
set_option maxRecDepth 1000000 in
theorem r116 : Q (fr 116) := Symb.run (n := 10000) (by kernel_rfl) is_fn
set_option maxRecDepth 1000000 in
theorem r117 : Q (fr 117) := Symb.run (n := 10000) (by kernel_rfl) is_fn
set_option maxRecDepth 1000000 in
theorem r118 : Q (fr 118) := Symb.run (n := 10000) (by kernel_rfl) is_fn
set_option maxRecDepth 1000000 in
theorem r119 : Q (fr 119) := Symb.run (n := 10000) (by kernel_rfl) is_fn
set_option maxRecDepth 1000000 in
theorem r120 : Q (fr 120) := Symb.run (n := 10000) (by kernel_rfl) is_fn
set_option maxRecDepth 1000000 in
theorem r121 : Q (fr 121) := Symb.run (n := 10000) (by kernel_rfl) is_fn
set_option maxRecDepth 1000000 in
theorem r122 : Q (fr 122) := Symb.run (n := 10000) (by kernel_rfl) is_fn
set_option maxRecDepth 1000000 in
theorem r123 : Q (fr 123) := Symb.run (n := 10000) (by kernel_rfl) is_fn
set_option maxRecDepth 1000000 in
theorem r124 : Q (fr 124) := Symb.run (n := 10000) (by kernel_rfl) is_fn
set_option maxRecDepth 1000000 in
theorem r125 : Q (fr 125) := Symb.run (n := 10000) (by kernel_rfl) is_fn
set_option maxRecDepth 1000000 in
theorem r126 : Q (fr 126) := Symb.run (n := 10000) (by kernel_rfl) is_fn
set_option maxRecDepth 1000000 in
theorem r127 : Q (fr 127) := Symb.run (n := 10000) (by kernel_rfl) is_fn
theorem p3 : ∀ j : Nat, 96 ≤ j → j < 128 → Q (fr j) :=
  all_lt (b := 97) (all_one (Q := fun j => Q (fr j)) r96) <| all_lt (b := 98) (all_one (Q := fun j => Q (fr j)) r97) <| all_lt (b := 99) (all_one (Q := fun j => Q (fr j)) r98) <| all_lt (b := 100) (all_one (Q := fun j => Q (fr j)) r99) <| all_lt (b := 101) (all_one (Q := fun j => Q (fr j)) r100) <| all_lt (b := 102) (all_one (Q := fun j => Q (fr j)) r101) <| all_lt (b := 103) (all_one (Q := fun j => Q (fr j)) r102) <| all_lt (b := 104) (all_one (Q := fun j => Q (fr j)) r103) <| all_lt (b := 105) (all_one (Q := fun j => Q (fr j)) r104) <| all_lt (b := 106) (all_one (Q := fun j => Q (fr j)) r105) <| all_lt (b := 107) (all_one (Q := fun j => Q (fr j)) r106) <| all_lt (b := 108) (all_one (Q := fun j => Q (fr j)) r107) <| all_lt (b := 109) (all_one (Q := fun j => Q (fr j)) r108) <| all_lt (b := 110) (all_one (Q := fun j => Q (fr j)) r109) <| all_lt (b := 111) (all_one (Q := fun j => Q (fr j)) r110) <| all_lt (b := 112) (all_one (Q := fun j => Q (fr j)) r111) <| all_lt (b := 113) (all_one (Q := fun j => Q (fr j)) r112) <| all_lt (b := 114) (all_one (Q := fun j => Q (fr j)) r113) <| all_lt (b := 115) (all_one (Q := fun j => Q (fr j)) r114) <| all_lt (b := 116) (all_one (Q := fun j => Q (fr j)) r115) <| all_lt (b := 117) (all_one (Q := fun j => Q (fr j)) r116) <| all_lt (b := 118) (all_one (Q := fun j => Q (fr j)) r117) <| all_lt (b := 119) (all_one (Q := fun j => Q (fr j)) r118) <| all_lt (b := 120) (all_one (Q := fun j => Q (fr j)) r119) <| all_lt (b := 121) (all_one (Q := fun j => Q (fr j)) r120) <| all_lt (b := 122) (all_one (Q := fun j => Q (fr j)) r121) <| all_lt (b := 123) (all_one (Q := fun j => Q (fr j)) r122) <| all_lt (b := 124) (all_one (Q := fun j => Q (fr j)) r123) <| all_lt (b := 125) (all_one (Q := fun j => Q (fr j)) r124) <| all_lt (b := 126) (all_one (Q := fun j => Q (fr j)) r125) <| all_lt (b := 127) (all_one (Q := fun j => Q (fr j)) r126) <| all_one (Q := fun j => Q (fr j)) r127
end Go.Proofs.YtichodpjpcaneabDoor.Closed
