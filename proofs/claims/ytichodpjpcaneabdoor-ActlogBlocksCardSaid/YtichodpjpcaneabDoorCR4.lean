import Derived.Test.YtichodpjpcaneabDoorShaP
namespace Go.Proofs.YtichodpjpcaneabDoor.Closed
open Go Go.Sy Go.Sy.Sha Go.RowKit
set_option maxRecDepth 1000000 in
theorem r128 : Q (fr 128) := Symb.run (n := 10000) (by kernel_rfl) is_fn
set_option maxRecDepth 1000000 in
theorem r129 : Q (fr 129) := Symb.run (n := 10000) (by kernel_rfl) is_fn
set_option maxRecDepth 1000000 in
theorem r130 : Q (fr 130) := Symb.run (n := 10000) (by kernel_rfl) is_fn
set_option maxRecDepth 1000000 in
theorem r131 : Q (fr 131) := Symb.run (n := 10000) (by kernel_rfl) is_fn
set_option maxRecDepth 1000000 in
theorem r132 : Q (fr 132) := Symb.run (n := 10000) (by kernel_rfl) is_fn
set_option maxRecDepth 1000000 in
theorem r133 : Q (fr 133) := Symb.run (n := 10000) (by kernel_rfl) is_fn
set_option maxRecDepth 1000000 in
theorem r134 : Q (fr 134) := Symb.run (n := 10000) (by kernel_rfl) is_fn
set_option maxRecDepth 1000000 in
theorem r135 : Q (fr 135) := Symb.run (n := 10000) (by kernel_rfl) is_fn
set_option maxRecDepth 1000000 in
theorem r136 : Q (fr 136) := Symb.run (n := 10000) (by kernel_rfl) is_fn
set_option maxRecDepth 1000000 in
theorem r137 : Q (fr 137) := Symb.run (n := 10000) (by kernel_rfl) is_fn
set_option maxRecDepth 1000000 in
theorem r138 : Q (fr 138) := Symb.run (n := 10000) (by kernel_rfl) is_fn
set_option maxRecDepth 1000000 in
theorem r139 : Q (fr 139) := Symb.run (n := 10000) (by kernel_rfl) is_fn
set_option maxRecDepth 1000000 in
theorem r140 : Q (fr 140) := Symb.run (n := 10000) (by kernel_rfl) is_fn
set_option maxRecDepth 1000000 in
theorem r141 : Q (fr 141) := Symb.run (n := 10000) (by kernel_rfl) is_fn
set_option maxRecDepth 1000000 in
theorem r142 : Q (fr 142) := Symb.run (n := 10000) (by kernel_rfl) is_fn
set_option maxRecDepth 1000000 in
theorem r143 : Q (fr 143) := Symb.run (n := 10000) (by kernel_rfl) is_fn
set_option maxRecDepth 1000000 in
theorem r144 : Q (fr 144) := Symb.run (n := 10000) (by kernel_rfl) is_fn
set_option maxRecDepth 1000000 in
theorem r145 : Q (fr 145) := Symb.run (n := 10000) (by kernel_rfl) is_fn
set_option maxRecDepth 1000000 in
theorem r146 : Q (fr 146) := Symb.run (n := 10000) (by kernel_rfl) is_fn
set_option maxRecDepth 1000000 in
theorem r147 : Q (fr 147) := Symb.run (n := 10000) (by kernel_rfl) is_fn
set_option maxRecDepth 1000000 in
theorem r148 : Q (fr 148) := Symb.run (n := 10000) (by kernel_rfl) is_fn
set_option maxRecDepth 1000000 in
theorem r149 : Q (fr 149) := Symb.run (n := 10000) (by kernel_rfl) is_fn
set_option maxRecDepth 1000000 in
theorem r150 : Q (fr 150) := Symb.run (n := 10000) (by kernel_rfl) is_fn
set_option maxRecDepth 1000000 in
theorem r151 : Q (fr 151) := Symb.run (n := 10000) (by kernel_rfl) is_fn
set_option maxRecDepth 1000000 in
theorem r152 : Q (fr 152) := Symb.run (n := 10000) (by kernel_rfl) is_fn
set_option maxRecDepth 1000000 in
theorem r153 : Q (fr 153) := Symb.run (n := 10000) (by kernel_rfl) is_fn
set_option maxRecDepth 1000000 in
theorem r154 : Q (fr 154) := Symb.run (n := 10000) (by kernel_rfl) is_fn
set_option maxRecDepth 1000000 in
theorem r155 : Q (fr 155) := Symb.run (n := 10000) (by kernel_rfl) is_fn
set_option maxRecDepth 1000000 in
theorem r156 : Q (fr 156) := Symb.run (n := 10000) (by kernel_rfl) is_fn
set_option maxRecDepth 1000000 in
theorem r157 : Q (fr 157) := Symb.run (n := 10000) (by kernel_rfl) is_fn
set_option maxRecDepth 1000000 in
theorem r158 : Q (fr 158) := Symb.run (n := 10000) (by kernel_rfl) is_fn
set_option maxRecDepth 1000000 in
theorem r159 : Q (fr 159) := Symb.run (n := 10000) (by kernel_rfl) is_fn
theorem p4 : ∀ j : Nat, 128 ≤ j → j < 160 → Q (fr j) :=
  all_lt (b := 129) (all_one (Q := fun j => Q (fr j)) r128) <| all_lt (b := 130) (all_one (Q := fun j => Q (fr j)) r129) <| all_lt (b := 131) (all_one (Q := fun j => Q (fr j)) r130) <| all_lt (b := 132) (all_one (Q := fun j => Q (fr j)) r131) <| all_lt (b := 133) (all_one (Q := fun j => Q (fr j)) r132) <| all_lt (b := 134) (all_one (Q := fun j => Q (fr j)) r133) <| all_lt (b := 135) (all_one (Q := fun j => Q (fr j)) r134) <| all_lt (b := 136) (all_one (Q := fun j => Q (fr j)) r135) <| all_lt (b := 137) (all_one (Q := fun j => Q (fr j)) r136) <| all_lt (b := 138) (all_one (Q := fun j => Q (fr j)) r137) <| all_lt (b := 139) (all_one (Q := fun j => Q (fr j)) r138) <| all_lt (b := 140) (all_one (Q := fun j => Q (fr j)) r139) <| all_lt (b := 141) (all_one (Q := fun j => Q (fr j)) r140) <| all_lt (b := 142) (all_one (Q := fun j => Q (fr j)) r141) <| all_lt (b := 143) (all_one (Q := fun j => Q (fr j)) r142) <| all_lt (b := 144) (all_one (Q := fun j => Q (fr j)) r143) <| all_lt (b := 145) (all_one (Q := fun j => Q (fr j)) r144) <| all_lt (b := 146) (all_one (Q := fun j => Q (fr j)) r145) <| all_lt (b := 147) (all_one (Q := fun j => Q (fr j)) r146) <| all_lt (b := 148) (all_one (Q := fun j => Q (fr j)) r147) <| all_lt (b := 149) (all_one (Q := fun j => Q (fr j)) r148) <| all_lt (b := 150) (all_one (Q := fun j => Q (fr j)) r149) <| all_lt (b := 151) (all_one (Q := fun j => Q (fr j)) r150) <| all_lt (b := 152) (all_one (Q := fun j => Q (fr j)) r151) <| all_lt (b := 153) (all_one (Q := fun j => Q (fr j)) r152) <| all_lt (b := 154) (all_one (Q := fun j => Q (fr j)) r153) <| all_lt (b := 155) (all_one (Q := fun j => Q (fr j)) r154) <| all_lt (b := 156) (all_one (Q := fun j => Q (fr j)) r155) <| all_lt (b := 157) (all_one (Q := fun j => Q (fr j)) r156) <| all_lt (b := 158) (all_one (Q := fun j => Q (fr j)) r157) <| all_lt (b := 159) (all_one (Q := fun j => Q (fr j)) r158) <| all_one (Q := fun j => Q (fr j)) r159
end Go.Proofs.YtichodpjpcaneabDoor.Closed
