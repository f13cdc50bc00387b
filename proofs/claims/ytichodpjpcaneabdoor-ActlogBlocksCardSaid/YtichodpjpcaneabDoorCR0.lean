import Derived.Test.YtichodpjpcaneabDoorShaP
namespace Go.Proofs.YtichodpjpcaneabDoor.Closed
open Go Go.Sy Go.Sy.Sha Go.RowKit
set_option maxRecDepth 1000000 in
theorem r0 : Q (fr 0) := Symb.run (n := 10000) (by kernel_rfl) is_fn
set_option maxRecDepth 1000000 in
theorem r1 : Q (fr 1) := Symb.run (n := 10000) (by kernel_rfl) is_fn
set_option maxRecDepth 1000000 in
theorem r2 : Q (fr 2) := Symb.run (n := 10000) (by kernel_rfl) is_fn
set_option maxRecDepth 1000000 in
theorem r3 : Q (fr 3) := Symb.run (n := 10000) (by kernel_rfl) is_fn
set_option maxRecDepth 1000000 in
theorem r4 : Q (fr 4) := Symb.run (n := 10000) (by kernel_rfl) is_fn
set_option maxRecDepth 1000000 in
theorem r5 : Q (fr 5) := Symb.run (n := 10000) (by kernel_rfl) is_fn
set_option maxRecDepth 1000000 in
theorem r6 : Q (fr 6) := Symb.run (n := 10000) (by kernel_rfl) is_fn
set_option maxRecDepth 1000000 in
theorem r7 : Q (fr 7) := Symb.run (n := 10000) (by kernel_rfl) is_fn
set_option maxRecDepth 1000000 in
theorem r8 : Q (fr 8) := Symb.run (n := 10000) (by kernel_rfl) is_fn
set_option maxRecDepth 1000000 in
theorem r9 : Q (fr 9) := Symb.run (n := 10000) (by kernel_rfl) is_fn
set_option maxRecDepth 1000000 in
theorem r10 : Q (fr 10) := Symb.run (n := 10000) (by kernel_rfl) is_fn
set_option maxRecDepth 1000000 in
theorem r11 : Q (fr 11) := Symb.run (n := 10000) (by kernel_rfl) is_fn
set_option maxRecDepth 1000000 in
theorem r12 : Q (fr 12) := Symb.run (n := 10000) (by kernel_rfl) is_fn
set_option maxRecDepth 1000000 in
theorem r13 : Q (fr 13) := Symb.run (n := 10000) (by kernel_rfl) is_fn
set_option maxRecDepth 1000000 in
theorem r14 : Q (fr 14) := Symb.run (n := 10000) (by kernel_rfl) is_fn
set_option maxRecDepth 1000000 in
theorem r15 : Q (fr 15) := Symb.run (n := 10000) (by kernel_rfl) is_fn
set_option maxRecDepth 1000000 in
theorem r16 : Q (fr 16) := Symb.run (n := 10000) (by kernel_rfl) is_fn
set_option maxRecDepth 1000000 in
theorem r17 : Q (fr 17) := Symb.run (n := 10000) (by kernel_rfl) is_fn
set_option maxRecDepth 1000000 in
theorem r18 : Q (fr 18) := Symb.run (n := 10000) (by kernel_rfl) is_fn
set_option maxRecDepth 1000000 in
theorem r19 : Q (fr 19) := Symb.run (n := 10000) (by kernel_rfl) is_fn
set_option maxRecDepth 1000000 in
theorem r20 : Q (fr 20) := Symb.run (n := 10000) (by kernel_rfl) is_fn
set_option maxRecDepth 1000000 in
theorem r21 : Q (fr 21) := Symb.run (n := 10000) (by kernel_rfl) is_fn
set_option maxRecDepth 1000000 in
theorem r22 : Q (fr 22) := Symb.run (n := 10000) (by kernel_rfl) is_fn
set_option maxRecDepth 1000000 in
theorem r23 : Q (fr 23) := Symb.run (n := 10000) (by kernel_rfl) is_fn
set_option maxRecDepth 1000000 in
theorem r24 : Q (fr 24) := Symb.run (n := 10000) (by kernel_rfl) is_fn
set_option maxRecDepth 1000000 in
theorem r25 : Q (fr 25) := Symb.run (n := 10000) (by kernel_rfl) is_fn
set_option maxRecDepth 1000000 in
theorem r26 : Q (fr 26) := Symb.run (n := 10000) (by kernel_rfl) is_fn
set_option maxRecDepth 1000000 in
theorem r27 : Q (fr 27) := Symb.run (n := 10000) (by kernel_rfl) is_fn
set_option maxRecDepth 1000000 in
theorem r28 : Q (fr 28) := Symb.run (n := 10000) (by kernel_rfl) is_fn
set_option maxRecDepth 1000000 in
theorem r29 : Q (fr 29) := Symb.run (n := 10000) (by kernel_rfl) is_fn
set_option maxRecDepth 1000000 in
theorem r30 : Q (fr 30) := Symb.run (n := 10000) (by kernel_rfl) is_fn
set_option maxRecDepth 1000000 in
theorem r31 : Q (fr 31) := Symb.run (n := 10000) (by kernel_rfl) is_fn
theorem p0 : ∀ j : Nat, 0 ≤ j → j < 32 → Q (fr j) :=
  all_lt (b := 1) (all_one (Q := fun j => Q (fr j)) r0) <| all_lt (b := 2) (all_one (Q := fun j => Q (fr j)) r1) <| all_lt (b := 3) (all_one (Q := fun j => Q (fr j)) r2) <| all_lt (b := 4) (all_one (Q := fun j => Q (fr j)) r3) <| all_lt (b := 5) (all_one (Q := fun j => Q (fr j)) r4) <| all_lt (b := 6) (all_one (Q := fun j => Q (fr j)) r5) <| all_lt (b := 7) (all_one (Q := fun j => Q (fr j)) r6) <| all_lt (b := 8) (all_one (Q := fun j => Q (fr j)) r7) <| all_lt (b := 9) (all_one (Q := fun j => Q (fr j)) r8) <| all_lt (b := 10) (all_one (Q := fun j => Q (fr j)) r9) <| all_lt (b := 11) (all_one (Q := fun j => Q (fr j)) r10) <| all_lt (b := 12) (all_one (Q := fun j => Q (fr j)) r11) <| all_lt (b := 13) (all_one (Q := fun j => Q (fr j)) r12) <| all_lt (b := 14) (all_one (Q := fun j => Q (fr j)) r13) <| all_lt (b := 15) (all_one (Q := fun j => Q (fr j)) r14) <| all_lt (b := 16) (all_one (Q := fun j => Q (fr j)) r15) <| all_lt (b := 17) (all_one (Q := fun j => Q (fr j)) r16) <| all_lt (b := 18) (all_one (Q := fun j => Q (fr j)) r17) <| all_lt (b := 19) (all_one (Q := fun j => Q (fr j)) r18) <| all_lt (b := 20) (all_one (Q := fun j => Q (fr j)) r19) <| all_lt (b := 21) (all_one (Q := fun j => Q (fr j)) r20) <| all_lt (b := 22) (all_one (Q := fun j => Q (fr j)) r21) <| all_lt (b := 23) (all_one (Q := fun j => Q (fr j)) r22) <| all_lt (b := 24) (all_one (Q := fun j => Q (fr j)) r23) <| all_lt (b := 25) (all_one (Q := fun j => Q (fr j)) r24) <| all_lt (b := 26) (all_one (Q := fun j => Q (fr j)) r25) <| all_lt (b := 27) (all_one (Q := fun j => Q (fr j)) r26) <| all_lt (b := 28) (all_one (Q := fun j => Q (fr j)) r27) <| all_lt (b := 29) (all_one (Q := fun j => Q (fr j)) r28) <| all_lt (b := 30) (all_one (Q := fun j => Q (fr j)) r29) <| all_lt (b := 31) (all_one (Q := fun j => Q (fr j)) r30) <| all_one (Q := fun j => Q (fr j)) r31
end Go.Proofs.YtichodpjpcaneabDoor.Closed
