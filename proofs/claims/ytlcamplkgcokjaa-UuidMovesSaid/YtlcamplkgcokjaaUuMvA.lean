import Derived.Test.YtlcamplkgcokjaaUuMvG0
namespace Go.Proofs.Ytlcamplkgcokjaa.UuMv
open Go.Sx
theorem known_true (w : World) : Calls Try.prog 22 #[] w fun e w' => e = .returned (.bool true) ∧ Go.RowKit.Below w.heap.size w w' :=
  closed_true (P := Try.prog) (by kernel_rfl) (n := 1000) (by kernel_rfl) (by kernel_rfl) w
theorem good (iv : Iv) (od : Tr Nat) (t : Split) (h : check (cxK Try.prog 22 .nil .nil) 1000 5 argsP t iv od = true) : Go.Sx.Good Try.prog 5 argsP iv od :=
  Go.Sx.Good.of_check (by kernel_rfl) (fk := Try.f22) (by kernel_rfl) (by kernel_rfl) (by kernel_rfl) known_true (by decide) (by kernel_rfl) t h
theorem all_good : Go.Sx.Good Try.prog 5 argsP ivP .nil :=
  (good ivP .nil _ g1)
end Go.Proofs.Ytlcamplkgcokjaa.UuMv
