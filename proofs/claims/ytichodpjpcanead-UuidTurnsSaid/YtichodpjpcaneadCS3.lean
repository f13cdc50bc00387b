/-
  UuidTurns: some of its cases.
-/
import Derived.Test.YtichodpjpcaneadCA
namespace Go.Proofs.Ytichodpjpcanead.Closed
open Go.Sy Go.Sy.Uu
set_option maxRecDepth 1000000 in
theorem s001111 : Q (eqn 8 :: eqn 7 :: eqn 6 :: eqn 4 :: nen 3 :: nen 2 :: facts 0 shs) := Symb.run (n := 100000) (by kernel_rfl) is_fn
set_option maxRecDepth 1000000 in
theorem s001110 : Q (nen 8 :: eqn 7 :: eqn 6 :: eqn 4 :: nen 3 :: nen 2 :: facts 0 shs) := Symb.run (n := 100000) (by kernel_rfl) is_fn
set_option maxRecDepth 1000000 in
theorem s001101 : Q (eqn 8 :: nen 7 :: eqn 6 :: eqn 4 :: nen 3 :: nen 2 :: facts 0 shs) := Symb.run (n := 100000) (by kernel_rfl) is_fn
set_option maxRecDepth 1000000 in
theorem s001100 : Q (nen 8 :: nen 7 :: eqn 6 :: eqn 4 :: nen 3 :: nen 2 :: facts 0 shs) := Symb.run (n := 100000) (by kernel_rfl) is_fn
set_option maxRecDepth 1000000 in
theorem s001011 : Q (eqn 8 :: eqn 7 :: nen 6 :: eqn 4 :: nen 3 :: nen 2 :: facts 0 shs) := Symb.run (n := 100000) (by kernel_rfl) is_fn
set_option maxRecDepth 1000000 in
theorem s001010 : Q (nen 8 :: eqn 7 :: nen 6 :: eqn 4 :: nen 3 :: nen 2 :: facts 0 shs) := Symb.run (n := 100000) (by kernel_rfl) is_fn
set_option maxRecDepth 1000000 in
theorem s001001 : Q (eqn 8 :: nen 7 :: nen 6 :: eqn 4 :: nen 3 :: nen 2 :: facts 0 shs) := Symb.run (n := 100000) (by kernel_rfl) is_fn
set_option maxRecDepth 1000000 in
theorem s001000 : Q (nen 8 :: nen 7 :: nen 6 :: eqn 4 :: nen 3 :: nen 2 :: facts 0 shs) := Symb.run (n := 100000) (by kernel_rfl) is_fn
set_option maxRecDepth 1000000 in
theorem s000111 : Q (eqn 8 :: eqn 7 :: eqn 6 :: nen 4 :: nen 3 :: nen 2 :: facts 0 shs) := Symb.run (n := 100000) (by kernel_rfl) is_fn
set_option maxRecDepth 1000000 in
theorem s000110 : Q (nen 8 :: eqn 7 :: eqn 6 :: nen 4 :: nen 3 :: nen 2 :: facts 0 shs) := Symb.run (n := 100000) (by kernel_rfl) is_fn
set_option maxRecDepth 1000000 in
theorem s000101 : Q (eqn 8 :: nen 7 :: eqn 6 :: nen 4 :: nen 3 :: nen 2 :: facts 0 shs) := Symb.run (n := 100000) (by kernel_rfl) is_fn
set_option maxRecDepth 1000000 in
theorem s000100 : Q (nen 8 :: nen 7 :: eqn 6 :: nen 4 :: nen 3 :: nen 2 :: facts 0 shs) := Symb.run (n := 100000) (by kernel_rfl) is_fn
set_option maxRecDepth 1000000 in
theorem s000011 : Q (eqn 8 :: eqn 7 :: nen 6 :: nen 4 :: nen 3 :: nen 2 :: facts 0 shs) := Symb.run (n := 100000) (by kernel_rfl) is_fn
set_option maxRecDepth 1000000 in
theorem s000010 : Q (nen 8 :: eqn 7 :: nen 6 :: nen 4 :: nen 3 :: nen 2 :: facts 0 shs) := Symb.run (n := 100000) (by kernel_rfl) is_fn
set_option maxRecDepth 1000000 in
theorem s000001 : Q (eqn 8 :: nen 7 :: nen 6 :: nen 4 :: nen 3 :: nen 2 :: facts 0 shs) := Symb.run (n := 100000) (by kernel_rfl) is_fn
set_option maxRecDepth 1000000 in
theorem s000000 : Q (nen 8 :: nen 7 :: nen 6 :: nen 4 :: nen 3 :: nen 2 :: facts 0 shs) := Symb.run (n := 100000) (by kernel_rfl) is_fn
end Go.Proofs.Ytichodpjpcanead.Closed
