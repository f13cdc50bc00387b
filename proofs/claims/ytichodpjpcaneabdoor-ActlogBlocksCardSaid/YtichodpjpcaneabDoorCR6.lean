import Derived.Test.YtichodpjpcaneabDoorShaP
namespace Go.Proofs.YtichodpjpcaneabDoor.Closed
open Go Go.Sy Go.Sy.Sha Go.RowKit
set_option maxRecDepth 1000000 in
theorem r192 : Q (fr 192) := Symb.run (n := 10000) (by kernel_rfl) is_fn
set_option maxRecDepth 1000000 in
theorem r193 : Q (fr 193) := Symb.run (n := 10000) (by kernel_rfl) is_fn
set_option maxRecDepth 1000000 in
theorem r194 : Q (fr 194) := Symb.run (n := 10000) (by kernel_rfl) is_fn
set_option maxRecDepth 1000000 in
theorem r195 : Q (fr 195) := Symb.run (n := 10000) (by kernel_rfl) is_fn
set_option maxRecDepth 1000000 in
theorem r196 : Q (fr 196) := Symb.run (n := 10000) (by kernel_rfl) is_fn
set_option maxRecDepth 1000000 in
theorem r197 : Q (fr 197) := Symb.run (n := 10000) (by kernel_rfl) is_fn
set_option maxRecDepth 1000000 in
theorem r198 : Q (fr 198) := Symb.run (n := 10000) (by kernel_rfl) is_fn
set_option maxRecDepth 1000000 in
theorem r199 : Q (fr 199) := Symb.run (n := 10000) (by kernel_rfl) is_fn
set_option maxRecDepth 1000000 in
theorem r200 : Q (fr 200) := Symb.run (n := 10000) (by kernel_rfl) is_fn
set_option maxRecDepth 1000000 in
theorem r201 : Q (fr 201) := Symb.run (n := 10000) (by kernel_rfl) is_fn
set_option maxRecDepth 1000000 in
theorem r202 : Q (fr 202) := Symb.run (n := 10000) (by kernel_rfl) is_fn
set_option maxRecDepth 1000000 in
theorem r203 : Q (fr 203) := Symb.run (n := 10000) (by kernel_rfl) is_fn
set_option maxRecDepth 1000000 in
theorem r204 : Q (fr 204) := Symb.run (n := 10000) (by kernel_rfl) is_fn
set_option maxRecDepth 1000000 in
theorem r205 : Q (fr 205) := Symb.run (n := 10000) (by kernel_rfl) is_fn
set_option maxRecDepth 1000000 in
theorem r206 : Q (fr 206) := Symb.run (n := 10000) (by kernel_rfl) is_fn
set_option maxRecDepth 1000000 in
theorem r207 : Q (fr 207) := Symb.run (n := 10000) (by kernel_rfl) is_fn
set_option maxRecDepth 1000000 in
theorem r208 : Q (fr 208) := Symb.run (n := 10000) (by kernel_rfl) is_fn
set_option maxRecDepth 1000000 in
theorem r209 : Q (fr 209) := Symb.run (n := 10000) (by kernel_rfl) is_fn
set_option maxRecDepth 1000000 in
theorem r210 : Q (fr 210) := Symb.run (n := 10000) (by kernel_rfl) is_fn
set_option maxRecDepth 1000000 in
theorem r211 : Q (fr 211) := Symb.run (n := 10000) (by kernel_rfl) is_fn
set_option maxRecDepth 1000000 in
theorem r212 : Q (fr 212) := Symb.run (n := 10000) (by kernel_rfl) is_fn
set_option maxRecDepth 1000000 in
theorem r213 : Q (fr 213) := Symb.run (n := 10000) (by kernel_rfl) is_fn
set_option maxRecDepth 1000000 in
theorem r214 : Q (fr 214) := Symb.run (n := 10000) (by kernel_rfl) is_fn
set_option maxRecDepth 1000000 in
theorem r215 : Q (fr 215) := Symb.run (n := 10000) (by kernel_rfl) is_fn
set_option maxRecDepth 1000000 in
theorem r216 : Q (fr 216) := Symb.run (n := 10000) (by kernel_rfl) is_fn
set_option maxRecDepth 1000000 in
theorem r217 : Q (fr 217) := Symb.run (n := 10000) (by kernel_rfl) is_fn
set_option maxRecDepth 1000000 in
theorem r218 : Q (fr 218) := Symb.run (n := 10000) (by kernel_rfl) is_fn
set_option maxRecDepth 1000000 in
theorem r219 : Q (fr 219) := Symb.run (n := 10000) (by kernel_rfl) is_fn
set_option maxRecDepth 1000000 in
theorem r220 : Q (fr 220) := Symb.run (n := 10000) (by kernel_rfl) is_fn
set_option maxRecDepth 1000000 in
theorem r221 : Q (fr 221) := Symb.run (n := 10000) (by kernel_rfl) is_fn
set_option maxRecDepth 1000000 in
theorem r222 : Q (fr 222) := Symb.run (n := 10000) (by kernel_rfl) is_fn
set_option maxRecDepth 1000000 in
theorem r223 : Q (fr 223) := Symb.run (n := 10000) (by kernel_rfl) is_fn
theorem p6 : ∀ j : Nat, 192 ≤ j → j < 224 → Q (fr j) :=
  all_lt (b := 193) (all_one (Q := fun j => Q (fr j)) r192) <| all_lt (b := 194) (all_one (Q := fun j => Q (fr j)) r193) <| all_lt (b := 195) (all_one (Q := fun j => Q (fr j)) r194) <| all_lt (b := 196) (all_one (Q := fun j => Q (fr j)) r195) <| all_lt (b := 197) (all_one (Q := fun j => Q (fr j)) r196) <| all_lt (b := 198) (all_one (Q := fun j => Q (fr j)) r197) <| all_lt (b := 199) (all_one (Q := fun j => Q (fr j)) r198) <| all_lt (b := 200) (all_one (Q := fun j => Q (fr j)) r199) <| all_lt (b := 201) (all_one (Q := fun j => Q (fr j)) r200) <| all_lt (b := 202) (all_one (Q := fun j => Q (fr j)) r201) <| all_lt (b := 203) (all_one (Q := fun j => Q (fr j)) r202) <| all_lt (b := 204) (all_one (Q := fun j => Q (fr j)) r203) <| all_lt (b := 205) (all_one (Q := fun j => Q (fr j)) r204) <| all_lt (b := 206) (all_one (Q := fun j => Q (fr j)) r205) <| all_lt (b := 207) (all_one (Q := fun j => Q (fr j)) r206) <| all_lt (b := 208) (all_one (Q := fun j => Q (fr j)) r207) <| all_lt (b := 209) (all_one (Q := fun j => Q (fr j)) r208) <| all_lt (b := 210) (all_one (Q := fun j => Q (fr j)) r209) <| all_lt (b := 211) (all_one (Q := fun j => Q (fr j)) r210) <| all_lt (b := 212) (all_one (Q := fun j => Q (fr j)) r211) <| all_lt (b := 213) (all_one (Q := fun j => Q (fr j)) r212) <| all_lt (b := 214) (all_one (Q := fun j => Q (fr j)) r213) <| all_lt (b := 215) (all_one (Q := fun j => Q (fr j)) r214) <| all_lt (b := 216) (all_one (Q := fun j => Q (fr j)) r215) <| all_lt (b := 217) (all_one (Q := fun j => Q (fr j)) r216) <| all_lt (b := 218) (all_one (Q := fun j => Q (fr j)) r217) <| all_lt (b := 219) (all_one (Q := fun j => Q (fr j)) r218) <| all_lt (b := 220) (all_one (Q := fun j => Q (fr j)) r219) <| all_lt (b := 221) (all_one (Q := fun j => Q (fr j)) r220) <| all_lt (b := 222) (all_one (Q := fun j => Q (fr j)) r221) <| all_lt (b := 223) (all_one (Q := fun j => Q (fr j)) r222) <| all_one (Q := fun j => Q (fr j)) r223
end Go.Proofs.YtichodpjpcaneabDoor.Closed
