import Derived.Test.YtichodpjpcaneabDoorShaP
namespace Go.Proofs.YtichodpjpcaneabDoor.Closed
open Go Go.Sy Go.Sy.Sha Go.RowKit
set_option maxRecDepth 1000000 in
theorem r224 : Q (fr 224) := Symb.run (n := 10000) (by kernel_rfl) is_fn
set_option maxRecDepth 1000000 in
theorem r225 : Q (fr 225) := Symb.run (n := 10000) (by kernel_rfl) is_fn
set_option maxRecDepth 1000000 in
theorem r226 : Q (fr 226) := Symb.run (n := 10000) (by kernel_rfl) is_fn
set_option maxRecDepth 1000000 in
theorem r227 : Q (fr 227) := Symb.run (n := 10000) (by kernel_rfl) is_fn
set_option maxRecDepth 1000000 in
theorem r228 : Q (fr 228) := Symb.run (n := 10000) (by kernel_rfl) is_fn
set_option maxRecDepth 1000000 in
theorem r229 : Q (fr 229) := Symb.run (n := 10000) (by kernel_rfl) is_fn
set_option maxRecDepth 1000000 in
theorem r230 : Q (fr 230) := Symb.run (n := 10000) (by kernel_rfl) is_fn
set_option maxRecDepth 1000000 in
theorem r231 : Q (fr 231) := Symb.run (n := 10000) (by kernel_rfl) is_fn
set_option maxRecDepth 1000000 in
theorem r232 : Q (fr 232) := Symb.run (n := 10000) (by kernel_rfl) is_fn
set_option maxRecDepth 1000000 in
theorem r233 : Q (fr 233) := Symb.run (n := 10000) (by kernel_rfl) is_fn
set_option maxRecDepth 1000000 in
theorem r234 : Q (fr 234) := Symb.run (n := 10000) (by kernel_rfl) is_fn
set_option maxRecDepth 1000000 in
theorem r235 : Q (fr 235) := Symb.run (n := 10000) (by kernel_rfl) is_fn
set_option maxRecDepth 1000000 in
theorem r236 : Q (fr 236) := Symb.run (n := 10000) (by kernel_rfl) is_fn
set_option maxRecDepth 1000000 in
theorem r237 : Q (fr 237) := Symb.run (n := 10000) (by kernel_rfl) is_fn
set_option maxRecDepth 1000000 in
theorem r238 : Q (fr 238) := Symb.run (n := 10000) (by kernel_rfl) is_fn
set_option maxRecDepth 1000000 in
theorem r239 : Q (fr 239) := Symb.run (n := 10000) (by kernel_rfl) is_fn
set_option maxRecDepth 1000000 in
theorem r240 : Q (fr 240) := Symb.run (n := 10000) (by kernel_rfl) is_fn
set_option maxRecDepth 1000000 in
theorem r241 : Q (fr 241) := Symb.run (n := 10000) (by kernel_rfl) is_fn
set_option maxRecDepth 1000000 in
theorem r242 : Q (fr 242) := Symb.run (n := 10000) (by kernel_rfl) is_fn
set_option maxRecDepth 1000000 in
theorem r243 : Q (fr 243) := Symb.run (n := 10000) (by kernel_rfl) is_fn
set_option maxRecDepth 1000000 in
theorem r244 : Q (fr 244) := Symb.run (n := 10000) (by kernel_rfl) is_fn
set_option maxRecDepth 1000000 in
theorem r245 : Q (fr 245) := Symb.run (n := 10000) (by kernel_rfl) is_fn
set_option maxRecDepth 1000000 in
theorem r246 : Q (fr 246) := Symb.run (n := 10000) (by kernel_rfl) is_fn
set_option maxRecDepth 1000000 in
theorem r247 : Q (fr 247) := Symb.run (n := 10000) (by kernel_rfl) is_fn
set_option maxRecDepth 1000000 in
theorem r248 : Q (fr 248) := Symb.run (n := 10000) (by kernel_rfl) is_fn
set_option maxRecDepth 1000000 in
theorem r249 : Q (fr 249) := Symb.run (n := 10000) (by kernel_rfl) is_fn
set_option maxRecDepth 1000000 in
theorem r250 : Q (fr 250) := Symb.run (n := 10000) (by kernel_rfl) is_fn
set_option maxRecDepth 1000000 in
theorem r251 : Q (fr 251) := Symb.run (n := 10000) (by kernel_rfl) is_fn
set_option maxRecDepth 1000000 in
theorem r252 : Q (fr 252) := Symb.run (n := 10000) (by kernel_rfl) is_fn
set_option maxRecDepth 1000000 in
theorem r253 : Q (fr 253) := Symb.run (n := 10000) (by kernel_rfl) is_fn
set_option maxRecDepth 1000000 in
theorem r254 : Q (fr 254) := Symb.run (n := 10000) (by kernel_rfl) is_fn
set_option maxRecDepth 1000000 in
theorem r255 : Q (fr 255) := Symb.run (n := 10000) (by kernel_rfl) is_fn
theorem p7 : ∀ j : Nat, 224 ≤ j → j < 256 → Q (fr j) :=
  all_lt (b := 225) (all_one (Q := fun j => Q (fr j)) r224) <| all_lt (b := 226) (all_one (Q := fun j => Q (fr j)) r225) <| all_lt (b := 227) (all_one (Q := fun j => Q (fr j)) r226) <| all_lt (b := 228) (all_one (Q := fun j => Q (fr j)) r227) <| all_lt (b := 229) (all_one (Q := fun j => Q (fr j)) r228) <| all_lt (b := 230) (all_one (Q := fun j => Q (fr j)) r229) <| all_lt (b := 231) (all_one (Q := fun j => Q (fr j)) r230) <| all_lt (b := 232) (all_one (Q := fun j => Q (fr j)) r231) <| all_lt (b := 233) (all_one (Q := fun j => Q (fr j)) r232) <| all_lt (b := 234) (all_one (Q := fun j => Q (fr j)) r233) <| all_lt (b := 235) (all_one (Q := fun j => Q (fr j)) r234) <| all_lt (b := 236) (all_one (Q := fun j => Q (fr j)) r235) <| all_lt (b := 237) (all_one (Q := fun j => Q (fr j)) r236) <| all_lt (b := 238) (all_one (Q := fun j => Q (fr j)) r237) <| all_lt (b := 239) (all_one (Q := fun j => Q (fr j)) r238) <| all_lt (b := 240) (all_one (Q := fun j => Q (fr j)) r239) <| all_lt (b := 241) (all_one (Q := fun j => Q (fr j)) r240) <| all_lt (b := 242) (all_one (Q := fun j => Q (fr j)) r241) <| all_lt (b := 243) (all_one (Q := fun j => Q (fr j)) r242) <| all_lt (b := 244) (all_one (Q := fun j => Q (fr j)) r243) <| all_lt (b := 245) (all_one (Q := fun j => Q (fr j)) r244) <| all_lt (b := 246) (all_one (Q := fun j => Q (fr j)) r245) <| all_lt (b := 247) (all_one (Q := fun j => Q (fr j)) r246) <| all_lt (b := 248) (all_one (Q := fun j => Q (fr j)) r247) <| all_lt (b := 249) (all_one (Q := fun j => Q (fr j)) r248) <| all_lt (b := 250) (all_one (Q := fun j => Q (fr j)) r249) <| all_lt (b := 251) (all_one (Q := fun j => Q (fr j)) r250) <| all_lt (b := 252) (all_one (Q := fun j => Q (fr j)) r251) <| all_lt (b := 253) (all_one (Q := fun j => Q (fr j)) r252) <| all_lt (b := 254) (all_one (Q := fun j => Q (fr j)) r253) <| all_lt (b := 255) (all_one (Q := fun j => Q (fr j)) r254) <| all_one (Q := fun j => Q (fr j)) r255
end Go.Proofs.YtichodpjpcaneabDoor.Closed
