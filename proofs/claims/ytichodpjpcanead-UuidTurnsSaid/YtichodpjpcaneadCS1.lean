/-
  UuidTurns: some of its cases.
-/
import Derived.Test.YtichodpjpcaneadCA
namespace Go.Proofs.Ytichodpjpcanead.Closed
open Go.Sy Go.Sy.Uu
set_option maxRecDepth 1000000 in
theorem s101111 : Q (eqn 8 :: eqn 7 :: eqn 6 :: eqn 4 :: nen 3 :: eqn 2 :: facts 0 shs) := Symb.run (n := 100000) (by kernel_rfl) is_fn
set_option maxRecDepth 1000000 in
theorem s101110 : Q (nen 8 :: eqn 7 :: eqn 6 :: eqn 4 :: nen 3 :: eqn 2 :: facts 0 shs) := Symb.run (n := 100000) (by kernel_rfl) is_fn
set_option maxRecDepth 1000000 in
theorem s101101 : Q (eqn 8 :: nen 7 :: eqn 6 :: eqn 4 :: nen 3 :: eqn 2 :: facts 0 shs) := Symb.run (n := 100000) (by kernel_rfl) is_fn
set_option maxRecDepth 1000000 in
theorem s101100 : Q (nen 8 :: nen 7 :: eqn 6 :: eqn 4 :: nen 3 :: eqn 2 :: facts 0 shs) := Symb.run (n := 100000) (by kernel_rfl) is_fn
set_option maxRecDepth 1000000 in
theorem s101011 : Q (eqn 8 :: eqn 7 :: nen 6 :: eqn 4 :: nen 3 :: eqn 2 :: facts 0 shs) := Symb.run (n := 100000) (by kernel_rfl) is_fn
set_option maxRecDepth 1000000 in
theorem s101010 : Q (nen 8 :: eqn 7 :: nen 6 :: eqn 4 :: nen 3 :: eqn 2 :: facts 0 shs) := Symb.run (n := 100000) (by kernel_rfl) is_fn
set_option maxRecDepth 1000000 in
theorem s101001 : Q (eqn 8 :: nen 7 :: nen 6 :: eqn 4 :: nen 3 :: eqn 2 :: facts 0 shs) := Symb.run (n := 100000) (by kernel_rfl) is_fn
set_option maxRecDepth 1000000 in
theorem s101000 : Q (nen 8 :: nen 7 :: nen 6 :: eqn 4 :: nen 3 :: eqn 2 :: facts 0 shs) := Symb.run (n := 100000) (by kernel_rfl) is_fn
set_option maxRecDepth 1000000 in
theorem s100111 : Q (eqn 8 :: eqn 7 :: eqn 6 :: nen 4 :: nen 3 :: eqn 2 :: facts 0 shs) := Symb.run (n := 100000) (by kernel_rfl) is_fn
set_option maxRecDepth 1000000 in
theorem s100110 : Q (nen 8 :: eqn 7 :: eqn 6 :: nen 4 :: nen 3 :: eqn 2 :: facts 0 shs) := Symb.run (n := 100000) (by kernel_rfl) is_fn
set_option maxRecDepth 1000000 in
theorem s100101 : Q (eqn 8 :: nen 7 :: eqn 6 :: nen 4 :: nen 3 :: eqn 2 :: facts 0 shs) := Symb.run (n := 100000) (by kernel_rfl) is_fn
set_option maxRecDepth 1000000 in
theorem s100100 : Q (nen 8 :: nen 7 :: eqn 6 :: nen 4 :: nen 3 :: eqn 2 :: facts 0 shs) := Symb.run (n := 100000) (by kernel_rfl) is_fn
set_option maxRecDepth 1000000 in
theorem s100011 : Q (eqn 8 :: eqn 7 :: nen 6 :: nen 4 :: nen 3 :: eqn 2 :: facts 0 shs) := Symb.run (n := 100000) (by kernel_rfl) is_fn
set_option maxRecDepth 1000000 in
theorem s100010 : Q (nen 8 :: eqn 7 :: nen 6 :: nen 4 :: nen 3 :: eqn 2 :: facts 0 shs) := Symb.run (n := 100000) (by kernel_rfl) is_fn
set_option maxRecDepth 1000000 in
theorem s100001 : Q (eqn 8 :: nen 7 :: nen 6 :: nen 4 :: nen 3 :: eqn 2 :: facts 0 shs) := Symb.run (n := 100000) (by kernel_rfl) is_fn
set_option maxRecDepth 1000000 in
theorem s100000 : Q (nen 8 :: nen 7 :: nen 6 :: nen 4 :: nen 3 :: eqn 2 :: facts 0 shs) := Symb.run (n := 100000) (by kernel_rfl) is_fn
end Go.Proofs.Ytichodpjpcanead.Closed
