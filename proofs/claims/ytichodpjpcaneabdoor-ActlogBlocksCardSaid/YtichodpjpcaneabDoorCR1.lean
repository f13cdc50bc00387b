import Derived.Test.YtichodpjpcaneabDoorShaP
namespace Go.Proofs.YtichodpjpcaneabDoor.Closed
open Go Go.Sy Go.Sy.Sha Go.RowKit
set_option maxRecDepth 1000000 in
theorem r32 : Q (fr 32) := Symb.run (n := 10000) (by kernel_rfl) is_fn
set_option maxRecDepth 1000000 in
theorem r33 : Q (fr 33) := Symb.run (n := 10000) (by kernel_rfl) is_fn
set_option maxRecDepth 1000000 in
theorem r34 : Q (fr 34) := Symb.run (n := 10000) (by kernel_rfl) is_fn
set_option maxRecDepth 1000000 in
theorem r35 : Q (fr 35) := Symb.run (n := 10000) (by kernel_rfl) is_fn
set_option maxRecDepth 1000000 in
theorem r36 : Q (fr 36) := Symb.run (n := 10000) (by kernel_rfl) is_fn
set_option maxRecDepth 1000000 in
theorem r37 : Q (fr 37) := Symb.run (n := 10000) (by kernel_rfl) is_fn
set_option maxRecDepth 1000000 in
theorem r38 : Q (fr 38) := Symb.run (n := 10000) (by kernel_rfl) is_fn
set_option maxRecDepth 1000000 in
theorem r39 : Q (fr 39) := Symb.run (n := 10000) (by kernel_rfl) is_fn
set_option maxRecDepth 1000000 in
theorem r40 : Q (fr 40) := Symb.run (n := 10000) (by kernel_rfl) is_fn
set_option maxRecDepth 1000000 in
theorem r41 : Q (fr 41) := Symb.run (n := 10000) (by kernel_rfl) is_fn
set_option maxRecDepth 1000000 in
theorem r42 : Q (fr 42) := Symb.run (n := 10000) (by kernel_rfl) is_fn
set_option maxRecDepth 1000000 in
theorem r43 : Q (fr 43) := Symb.run (n := 10000) (by kernel_rfl) is_fn
set_option maxRecDepth 1000000 in
theorem r44 : Q (fr 44) := Symb.run (n := 10000) (by kernel_rfl) is_fn
set_option maxRecDepth 1000000 in
theorem r45 : Q (fr 45) := Symb.run (n := 10000) (by kernel_rfl) is_fn
set_option maxRecDepth 1000000 in
theorem r46 : Q (fr 46) := Symb.run (n := 10000) (by kernel_rfl) is_fn
set_option maxRecDepth 1000000 in
theorem r47 : Q (fr 47) := Symb.run (n := 10000) (by kernel_rfl) is_fn
set_option maxRecDepth 1000000 in
theorem r48 : Q (fr 48) := Symb.run (n := 10000) (by kernel_rfl) is_fn
set_option maxRecDepth 1000000 in
theorem r49 : Q (fr 49) := Symb.run (n := 10000) (by kernel_rfl) is_fn
set_option maxRecDepth 1000000 in
theorem r50 : Q (fr 50) := Symb.run (n := 10000) (by kernel_rfl) is_fn
set_option maxRecDepth 1000000 in
theorem r51 : Q (fr 51) := Symb.run (n := 10000) (by kernel_rfl) is_fn
set_option maxRecDepth 1000000 in
theorem r52 : Q (fr 52) := Symb.run (n := 10000) (by kernel_rfl) is_fn
set_option maxRecDepth 1000000 in
theorem r53 : Q (fr 53) := Symb.run (n := 10000) (by kernel_rfl) is_fn
set_option maxRecDepth 1000000 in
theorem r54 : Q (fr 54) := Symb.run (n := 10000) (by kernel_rfl) is_fn
set_option maxRecDepth 1000000 in
theorem r55 : Q (fr 55) := Symb.run (n := 10000) (by kernel_rfl) is_fn
set_option maxRecDepth 1000000 in
theorem r56 : Q (fr 56) := Symb.run (n := 10000) (by kernel_rfl) is_fn
set_option maxRecDepth 1000000 in
theorem r57 : Q (fr 57) := Symb.run (n := 10000) (by kernel_rfl) is_fn
set_option maxRecDepth 1000000 in
theorem r58 : Q (fr 58) := Symb.run (n := 10000) (by kernel_rfl) is_fn
set_option maxRecDepth 1000000 in
theorem r59 : Q (fr 59) := Symb.run (n := 10000) (by kernel_rfl) is_fn
set_option maxRecDepth 1000000 in
theorem r60 : Q (fr 60) := Symb.run (n := 10000) (by kernel_rfl) is_fn
set_option maxRecDepth 1000000 in
theorem r61 : Q (fr 61) := Symb.run (n := 10000) (by kernel_rfl) is_fn
set_option maxRecDepth 1000000 in
theorem r62 : Q (fr 62) := Symb.run (n := 10000) (by kernel_rfl) is_fn
set_option maxRecDepth 1000000 in
theorem r63 : Q (fr 63) := Symb.run (n := 10000) (by kernel_rfl) is_fn
theorem p1 : ∀ j : Nat, 32 ≤ j → j < 64 → Q (fr j) :=
  all_lt (b := 33) (all_one (Q := fun j => Q (fr j)) r32) <| all_lt (b := 34) (all_one (Q := fun j => Q (fr j)) r33) <| all_lt (b := 35) (all_one (Q := fun j => Q (fr j)) r34) <| all_lt (b := 36) (all_one (Q := fun j => Q (fr j)) r35) <| all_lt (b := 37) (all_one (Q := fun j => Q (fr j)) r36) <| all_lt (b := 38) (all_one (Q := fun j => Q (fr j)) r37) <| all_lt (b := 39) (all_one (Q := fun j => Q (fr j)) r38) <| all_lt (b := 40) (all_one (Q := fun j => Q (fr j)) r39) <| all_lt (b := 41) (all_one (Q := fun j => Q (fr j)) r40) <| all_lt (b := 42) (all_one (Q := fun j => Q (fr j)) r41) <| all_lt (b := 43) (all_one (Q := fun j => Q (fr j)) r42) <| all_lt (b := 44) (all_one (Q := fun j => Q (fr j)) r43) <| all_lt (b := 45) (all_one (Q := fun j => Q (fr j)) r44) <| all_lt (b := 46) (all_one (Q := fun j => Q (fr j)) r45) <| all_lt (b := 47) (all_one (Q := fun j => Q (fr j)) r46) <| all_lt (b := 48) (all_one (Q := fun j => Q (fr j)) r47) <| all_lt (b := 49) (all_one (Q := fun j => Q (fr j)) r48) <| all_lt (b := 50) (all_one (Q := fun j => Q (fr j)) r49) <| all_lt (b := 51) (all_one (Q := fun j => Q (fr j)) r50) <| all_lt (b := 52) (all_one (Q := fun j => Q (fr j)) r51) <| all_lt (b := 53) (all_one (Q := fun j => Q (fr j)) r52) <| all_lt (b := 54) (all_one (Q := fun j => Q (fr j)) r53) <| all_lt (b := 55) (all_one (Q := fun j => Q (fr j)) r54) <| all_lt (b := 56) (all_one (Q := fun j => Q (fr j)) r55) <| all_lt (b := 57) (all_one (Q := fun j => Q (fr j)) r56) <| all_lt (b := 58) (all_one (Q := fun j => Q (fr j)) r57) <| all_lt (b := 59) (all_one (Q := fun j => Q (fr j)) r58) <| all_lt (b := 60) (all_one (Q := fun j => Q (fr j)) r59) <| all_lt (b := 61) (all_one (Q := fun j => Q (fr j)) r60) <| all_lt (b := 62) (all_one (Q := fun j => Q (fr j)) r61) <| all_lt (b := 63) (all_one (Q := fun j => Q (fr j)) r62) <| all_one (Q := fun j => Q (fr j)) r63
end Go.Proofs.YtichodpjpcaneabDoor.Closed
