import Derived.Test.YtichodpjpcaneabDoorShaP
namespace Go.Proofs.YtichodpjpcaneabDoor.Closed
open Go Go.Sy Go.Sy.Sha Go.RowKit
set_option maxRecDepth 1000000 in
theorem r160 : Q (fr 160) := Symb.run (n := 10000) (by kernel_rfl) is_fn
set_option maxRecDepth 1000000 in
theorem r161 : Q (fr 161) := Symb.run (n := 10000) (by kernel_rfl) is_fn
set_option maxRecDepth 1000000 in
theorem r162 : Q (fr 162) := Symb.run (n := 10000) (by kernel_rfl) is_fn
set_option maxRecDepth 1000000 in
theorem r163 : Q (fr 163) := Symb.run (n := 10000) (by kernel_rfl) is_fn
set_option maxRecDepth 1000000 in
theorem r164 : Q (fr 164) := Symb.run (n := 10000) (by kernel_rfl) is_fn
set_option maxRecDepth 1000000 in
theorem r165 : Q (fr 165) := Symb.run (n := 10000) (by kernel_rfl) is_fn
set_option maxRecDepth 1000000 in
theorem r166 : Q (fr 166) := Symb.run (n := 10000) (by kernel_rfl) is_fn
set_option maxRecDepth 1000000 in
theorem r167 : Q (fr 167) := Symb.run (n := 10000) (by kernel_rfl) is_fn
set_option maxRecDepth 1000000 in
theorem r168 : Q (fr 168) := Symb.run (n := 10000) (by kernel_rfl) is_fn
set_option maxRecDepth 1000000 in
theorem r169 : Q (fr 169) := Symb.run (n := 10000) (by kernel_rfl) is_fn
set_option maxRecDepth 1000000 in
theorem r170 : Q (fr 170) := Symb.run (n := 10000) (by kernel_rfl) is_fn
set_option maxRecDepth 1000000 in
theorem r171 : Q (fr 171) := Symb.run (n := 10000) (by kernel_rfl) is_fn
set_option maxRecDepth 1000000 in
theorem r172 : Q (fr 172) := Symb.run (n := 10000) (by kernel_rfl) is_fn
set_option maxRecDepth 1000000 in
theorem r173 : Q (fr 173) := Symb.run (n := 10000) (by kernel_rfl) is_fn
set_option maxRecDepth 1000000 in
theorem r174 : Q (fr 174) := Symb.run (n := 10000) (by kernel_rfl) is_fn
set_option maxRecDepth 1000000 in
theorem r175 : Q (fr 175) := Symb.run (n := 10000) (by kernel_rfl) is_fn
set_option maxRecDepth 1000000 in
theorem r176 : Q (fr 176) := Symb.run (n := 10000) (by kernel_rfl) is_fn
set_option maxRecDepth 1000000 in
theorem r177 : Q (fr 177) := Symb.run (n := 10000) (by kernel_rfl) is_fn
set_option maxRecDepth 1000000 in
theorem r178 : Q (fr 178) := Symb.run (n := 10000) (by kernel_rfl) is_fn
set_option maxRecDepth 1000000 in
theorem r179 : Q (fr 179) := Symb.run (n := 10000) (by kernel_rfl) is_fn
set_option maxRecDepth 1000000 in
theorem r180 : Q (fr 180) := Symb.run (n := 10000) (by kernel_rfl) is_fn
set_option maxRecDepth 1000000 in
theorem r181 : Q (fr 181) := Symb.run (n := 10000) (by kernel_rfl) is_fn
set_option maxRecDepth 1000000 in
theorem r182 : Q (fr 182) := Symb.run (n := 10000) (by kernel_rfl) is_fn
set_option maxRecDepth 1000000 in
theorem r183 : Q (fr 183) := Symb.run (n := 10000) (by kernel_rfl) is_fn
set_option maxRecDepth 1000000 in
theorem r184 : Q (fr 184) := Symb.run (n := 10000) (by kernel_rfl) is_fn
set_option maxRecDepth 1000000 in
theorem r185 : Q (fr 185) := Symb.run (n := 10000) (by kernel_rfl) is_fn
set_option maxRecDepth 1000000 in
theorem r186 : Q (fr 186) := Symb.run (n := 10000) (by kernel_rfl) is_fn
set_option maxRecDepth 1000000 in
theorem r187 : Q (fr 187) := Symb.run (n := 10000) (by kernel_rfl) is_fn
set_option maxRecDepth 1000000 in
theorem r188 : Q (fr 188) := Symb.run (n := 10000) (by kernel_rfl) is_fn
set_option maxRecDepth 1000000 in
theorem r189 : Q (fr 189) := Symb.run (n := 10000) (by kernel_rfl) is_fn
set_option maxRecDepth 1000000 in
theorem r190 : Q (fr 190) := Symb.run (n := 10000) (by kernel_rfl) is_fn
set_option maxRecDepth 1000000 in
theorem r191 : Q (fr 191) := Symb.run (n := 10000) (by kernel_rfl) is_fn
theorem p5 : ∀ j : Nat, 160 ≤ j → j < 192 → Q (fr j) :=
  all_lt (b := 161) (all_one (Q := fun j => Q (fr j)) r160) <| all_lt (b := 162) (all_one (Q := fun j => Q (fr j)) r161) <| all_lt (b := 163) (all_one (Q := fun j => Q (fr j)) r162) <| all_lt (b := 164) (all_one (Q := fun j => Q (fr j)) r163) <| all_lt (b := 165) (all_one (Q := fun j => Q (fr j)) r164) <| all_lt (b := 166) (all_one (Q := fun j => Q (fr j)) r165) <| all_lt (b := 167) (all_one (Q := fun j => Q (fr j)) r166) <| all_lt (b := 168) (all_one (Q := fun j => Q (fr j)) r167) <| all_lt (b := 169) (all_one (Q := fun j => Q (fr j)) r168) <| all_lt (b := 170) (all_one (Q := fun j => Q (fr j)) r169) <| all_lt (b := 171) (all_one (Q := fun j => Q (fr j)) r170) <| all_lt (b := 172) (all_one (Q := fun j => Q (fr j)) r171) <| all_lt (b := 173) (all_one (Q := fun j => Q (fr j)) r172) <| all_lt (b := 174) (all_one (Q := fun j => Q (fr j)) r173) <| all_lt (b := 175) (all_one (Q := fun j => Q (fr j)) r174) <| all_lt (b := 176) (all_one (Q := fun j => Q (fr j)) r175) <| all_lt (b := 177) (all_one (Q := fun j => Q (fr j)) r176) <| all_lt (b := 178) (all_one (Q := fun j => Q (fr j)) r177) <| all_lt (b := 179) (all_one (Q := fun j => Q (fr j)) r178) <| all_lt (b := 180) (all_one (Q := fun j => Q (fr j)) r179) <| all_lt (b := 181) (all_one (Q := fun j => Q (fr j)) r180) <| all_lt (b := 182) (all_one (Q := fun j => Q (fr j)) r181) <| all_lt (b := 183) (all_one (Q := fun j => Q (fr j)) r182) <| all_lt (b := 184) (all_one (Q := fun j => Q (fr j)) r183) <| all_lt (b := 185) (all_one (Q := fun j => Q (fr j)) r184) <| all_lt (b := 186) (all_one (Q := fun j => Q (fr j)) r185) <| all_lt (b := 187) (all_one (Q := fun j => Q (fr j)) r186) <| all_lt (b := 188) (all_one (Q := fun j => Q (fr j)) r187) <| all_lt (b := 189) (all_one (Q := fun j => Q (fr j)) r188) <| all_lt (b := 190) (all_one (Q := fun j => Q (fr j)) r189) <| all_lt (b := 191) (all_one (Q := fun j => Q (fr j)) r190) <| all_one (Q := fun j => Q (fr j)) r191
end Go.Proofs.YtichodpjpcaneabDoor.Closed
