/-
  UuidTurns: some of its cases.
-/
import Derived.Test.YtichodpjpcaneadCA
namespace Go.Proofs.Ytichodpjpcanead.Closed
open Go.Sy Go.Sy.Uu
set_option maxRecDepth 1000000 in
theorem s111111 : Q (eqn 8 :: eqn 7 :: eqn 6 :: eqn 4 :: eqn 3 :: eqn 2 :: facts 0 shs) := Symb.run (n := 100000) (by kernel_rfl) is_fn
set_option maxRecDepth 1000000 in
theorem s111110 : Q (nen 8 :: eqn 7 :: eqn 6 :: eqn 4 :: eqn 3 :: eqn 2 :: facts 0 shs) := Symb.run (n := 100000) (by kernel_rfl) is_fn
set_option maxRecDepth 1000000 in
theorem s111101 : Q (eqn 8 :: nen 7 :: eqn 6 :: eqn 4 :: eqn 3 :: eqn 2 :: facts 0 shs) := Symb.run (n := 100000) (by kernel_rfl) is_fn
set_option maxRecDepth 1000000 in
theorem s111100 : Q (nen 8 :: nen 7 :: eqn 6 :: eqn 4 :: eqn 3 :: eqn 2 :: facts 0 shs) := Symb.run (n := 100000) (by kernel_rfl) is_fn
set_option maxRecDepth 1000000 in
theorem s111011 : Q (eqn 8 :: eqn 7 :: nen 6 :: eqn 4 :: eqn 3 :: eqn 2 :: facts 0 shs) := Symb.run (n := 100000) (by kernel_rfl) is_fn
set_option maxRecDepth 1000000 in
theorem s111010 : Q (nen 8 :: eqn 7 :: nen 6 :: eqn 4 :: eqn 3 :: eqn 2 :: facts 0 shs) := Symb.run (n := 100000) (by kernel_rfl) is_fn
set_option maxRecDepth 1000000 in
theorem s111001 : Q (eqn 8 :: nen 7 :: nen 6 :: eqn 4 :: eqn 3 :: eqn 2 :: facts 0 shs) := Symb.run (n := 100000) (by kernel_rfl) is_fn
set_option maxRecDepth 1000000 in
theorem s111000 : Q (nen 8 :: nen 7 :: nen 6 :: eqn 4 :: eqn 3 :: eqn 2 :: facts 0 shs) := Symb.run (n := 100000) (by kernel_rfl) is_fn
set_option maxRecDepth 1000000 in
theorem s110111 : Q (eqn 8 :: eqn 7 :: eqn 6 :: nen 4 :: eqn 3 :: eqn 2 :: facts 0 shs) := Symb.run (n := 100000) (by kernel_rfl) is_fn
set_option maxRecDepth 1000000 in
theorem s110110 : Q (nen 8 :: eqn 7 :: eqn 6 :: nen 4 :: eqn 3 :: eqn 2 :: facts 0 shs) := Symb.run (n := 100000) (by kernel_rfl) is_fn
set_option maxRecDepth 1000000 in
theorem s110101 : Q (eqn 8 :: nen 7 :: eqn 6 :: nen 4 :: eqn 3 :: eqn 2 :: facts 0 shs) := Symb.run (n := 100000) (by kernel_rfl) is_fn
set_option maxRecDepth 1000000 in
theorem s110100 : Q (nen 8 :: nen 7 :: eqn 6 :: nen 4 :: eqn 3 :: eqn 2 :: facts 0 shs) := Symb.run (n := 100000) (by kernel_rfl) is_fn
set_option maxRecDepth 1000000 in
theorem s110011 : Q (eqn 8 :: eqn 7 :: nen 6 :: nen 4 :: eqn 3 :: eqn 2 :: facts 0 shs) := Symb.run (n := 100000) (by kernel_rfl) is_fn
set_option maxRecDepth 1000000 in
theorem s110010 : Q (nen 8 :: eqn 7 :: nen 6 :: nen 4 :: eqn 3 :: eqn 2 :: facts 0 shs) := Symb.run (n := 100000) (by kernel_rfl) is_fn
set_option maxRecDepth 1000000 in
theorem s110001 : Q (eqn 8 :: nen 7 :: nen 6 :: nen 4 :: eqn 3 :: eqn 2 :: facts 0 shs) := Symb.run (n := 100000) (by kernel_rfl) is_fn
set_option maxRecDepth 1000000 in
theorem s110000 : Q (nen 8 :: nen 7 :: nen 6 :: nen 4 :: eqn 3 :: eqn 2 :: facts 0 shs) := Symb.run (n := 100000) (by kernel_rfl) is_fn
end Go.Proofs.Ytichodpjpcanead.Closed
