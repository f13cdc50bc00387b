/-
  UuidTurns: some of its cases.
-/
import Derived.Test.YtichodpjpcaneadCA
namespace Go.Proofs.Ytichodpjpcanead.Closed
open Go.Sy Go.Sy.Uu
set_option maxRecDepth 1000000 in
theorem s011111 : Q (eqn 8 :: eqn 7 :: eqn 6 :: eqn 4 :: eqn 3 :: nen 2 :: facts 0 shs) := Symb.run (n := 100000) (by kernel_rfl) is_fn
set_option maxRecDepth 1000000 in
theorem s011110 : Q (nen 8 :: eqn 7 :: eqn 6 :: eqn 4 :: eqn 3 :: nen 2 :: facts 0 shs) := Symb.run (n := 100000) (by kernel_rfl) is_fn
set_option maxRecDepth 1000000 in
theorem s011101 : Q (eqn 8 :: nen 7 :: eqn 6 :: eqn 4 :: eqn 3 :: nen 2 :: facts 0 shs) := Symb.run (n := 100000) (by kernel_rfl) is_fn
set_option maxRecDepth 1000000 in
theorem s011100 : Q (nen 8 :: nen 7 :: eqn 6 :: eqn 4 :: eqn 3 :: nen 2 :: facts 0 shs) := Symb.run (n := 100000) (by kernel_rfl) is_fn
set_option maxRecDepth 1000000 in
theorem s011011 : Q (eqn 8 :: eqn 7 :: nen 6 :: eqn 4 :: eqn 3 :: nen 2 :: facts 0 shs) := Symb.run (n := 100000) (by kernel_rfl) is_fn
set_option maxRecDepth 1000000 in
theorem s011010 : Q (nen 8 :: eqn 7 :: nen 6 :: eqn 4 :: eqn 3 :: nen 2 :: facts 0 shs) := Symb.run (n := 100000) (by kernel_rfl) is_fn
set_option maxRecDepth 1000000 in
theorem s011001 : Q (eqn 8 :: nen 7 :: nen 6 :: eqn 4 :: eqn 3 :: nen 2 :: facts 0 shs) := Symb.run (n := 100000) (by kernel_rfl) is_fn
set_option maxRecDepth 1000000 in
theorem s011000 : Q (nen 8 :: nen 7 :: nen 6 :: eqn 4 :: eqn 3 :: nen 2 :: facts 0 shs) := Symb.run (n := 100000) (by kernel_rfl) is_fn
set_option maxRecDepth 1000000 in
theorem s010111 : Q (eqn 8 :: eqn 7 :: eqn 6 :: nen 4 :: eqn 3 :: nen 2 :: facts 0 shs) := Symb.run (n := 100000) (by kernel_rfl) is_fn
set_option maxRecDepth 1000000 in
theorem s010110 : Q (nen 8 :: eqn 7 :: eqn 6 :: nen 4 :: eqn 3 :: nen 2 :: facts 0 shs) := Symb.run (n := 100000) (by kernel_rfl) is_fn
set_option maxRecDepth 1000000 in
theorem s010101 : Q (eqn 8 :: nen 7 :: eqn 6 :: nen 4 :: eqn 3 :: nen 2 :: facts 0 shs) := Symb.run (n := 100000) (by kernel_rfl) is_fn
set_option maxRecDepth 1000000 in
theorem s010100 : Q (nen 8 :: nen 7 :: eqn 6 :: nen 4 :: eqn 3 :: nen 2 :: facts 0 shs) := Symb.run (n := 100000) (by kernel_rfl) is_fn
set_option maxRecDepth 1000000 in
theorem s010011 : Q (eqn 8 :: eqn 7 :: nen 6 :: nen 4 :: eqn 3 :: nen 2 :: facts 0 shs) := Symb.run (n := 100000) (by kernel_rfl) is_fn
set_option maxRecDepth 1000000 in
theorem s010010 : Q (nen 8 :: eqn 7 :: nen 6 :: nen 4 :: eqn 3 :: nen 2 :: facts 0 shs) := Symb.run (n := 100000) (by kernel_rfl) is_fn
set_option maxRecDepth 1000000 in
theorem s010001 : Q (eqn 8 :: nen 7 :: nen 6 :: nen 4 :: eqn 3 :: nen 2 :: facts 0 shs) := Symb.run (n := 100000) (by kernel_rfl) is_fn
set_option maxRecDepth 1000000 in
theorem s010000 : Q (nen 8 :: nen 7 :: nen 6 :: nen 4 :: eqn 3 :: nen 2 :: facts 0 shs) := Symb.run (n := 100000) (by kernel_rfl) is_fn
end Go.Proofs.Ytichodpjpcanead.Closed
