import Derived.Test.YtlcamplkgcokjaaPolTD
namespace Go.Proofs.Ytlcamplkgcokjaa.PolT
open Go.Sx
theorem g115 : check (cxK Try.prog 37 .nil .nil) 1000 8 argsP (.cut 4 2 (.cut 0 3 (.cut 0 2 .leaf (.ord 12 5 .leaf .leaf .leaf)) (.cut 0 4 (.ord 5 12 .leaf .leaf .leaf) (.cut 0 5 (.ord 16 9 .leaf .leaf .leaf) (.cut 0 6 .leaf .leaf)))) (.cut 4 3 (.cut 0 3 (.cut 0 2 .leaf (.ord 12 5 .leaf .leaf .leaf)) (.cut 0 4 (.ord 5 12 .leaf .leaf .leaf) (.cut 0 5 (.ord 16 9 .leaf .leaf .leaf) (.cut 0 6 .leaf .leaf)))) (.cut 0 3 (.cut 0 2 .leaf (.ord 12 5 .leaf .leaf .leaf)) (.cut 0 4 (.ord 5 12 .leaf .leaf .leaf) (.cut 0 5 (.ord 16 9 .leaf .leaf .leaf) (.cut 0 6 .leaf .leaf)))))) iv113 .nil = true := by rw [← checkP_eq]; kernel_rfl
theorem g89 : check (cxK Try.prog 37 .nil .nil) 1000 8 argsP (.cut 11 3 (.cut 4 2 .leaf (.cut 4 3 .leaf .leaf)) (.cut 4 2 (.cut 0 3 (.cut 0 2 .leaf (.ord 12 5 .leaf .leaf .leaf)) (.cut 0 4 (.ord 5 12 .leaf .leaf .leaf) (.cut 0 5 (.ord 16 9 .leaf .leaf .leaf) (.cut 0 6 .leaf .leaf)))) (.cut 4 3 .leaf (.cut 0 3 (.cut 0 2 .leaf (.ord 12 5 .leaf .leaf .leaf)) (.cut 0 4 (.ord 5 12 .leaf .leaf .leaf) (.cut 0 5 (.ord 16 9 .leaf .leaf .leaf) (.cut 0 6 .leaf .leaf))))))) iv87 .nil = true := by rw [← checkP_eq]; kernel_rfl
theorem g60 : check (cxK Try.prog 37 .nil .nil) 1000 8 argsP (.cut 11 2 (.cut 0 3 (.cut 0 2 .leaf (.ord 5 12 .leaf .leaf .leaf)) (.cut 0 4 (.ord 12 5 .leaf .leaf .leaf) (.cut 0 5 (.ord 9 16 .leaf .leaf .leaf) (.cut 0 6 .leaf .leaf)))) (.cut 11 3 .leaf (.cut 0 3 (.cut 0 2 .leaf (.ord 5 12 .leaf .leaf .leaf)) (.cut 0 4 (.ord 12 5 .leaf .leaf .leaf) (.cut 0 5 (.ord 9 16 .leaf .leaf .leaf) (.cut 0 6 .leaf .leaf)))))) iv58 .nil = true := by rw [← checkP_eq]; kernel_rfl
theorem g15 : check (cxK Try.prog 37 .nil .nil) 1000 8 argsP (.cut 1 1 .leaf (.cut 1 2 .leaf (.cut 1 7 .leaf (.cut 1 8 .leaf (.cut 1 9 .leaf .leaf))))) iv13 .nil = true := by rw [← checkP_eq]; kernel_rfl
theorem g73 : check (cxK Try.prog 37 .nil .nil) 1000 8 argsP (.cut 1 1 .leaf (.cut 1 2 .leaf (.cut 1 7 .leaf (.cut 1 8 .leaf (.cut 1 9 .leaf .leaf))))) iv71 .nil = true := by rw [← checkP_eq]; kernel_rfl
theorem g3 : check (cxK Try.prog 37 .nil .nil) 1000 8 argsP (.cut 10 0 .leaf (.cut 10 2 (.cut 10 1 .leaf .leaf) .leaf)) iv1 .nil = true := by rw [← checkP_eq]; kernel_rfl
theorem g10 : check (cxK Try.prog 37 .nil .nil) 1000 8 argsP (.cut 10 0 .leaf .leaf) iv8 .nil = true := by rw [← checkP_eq]; kernel_rfl
theorem g20 : check (cxK Try.prog 37 .nil .nil) 1000 8 argsP .leaf iv18 .nil = true := by rw [← checkP_eq]; kernel_rfl
theorem g32 : check (cxK Try.prog 37 .nil .nil) 1000 8 argsP .leaf iv27 .nil = true := by rw [← checkP_eq]; kernel_rfl
theorem g40 : check (cxK Try.prog 37 .nil .nil) 1000 8 argsP .leaf iv38 .nil = true := by rw [← checkP_eq]; kernel_rfl
theorem g52 : check (cxK Try.prog 37 .nil .nil) 1000 8 argsP .leaf iv50 .nil = true := by rw [← checkP_eq]; kernel_rfl
theorem g63 : check (cxK Try.prog 37 .nil .nil) 1000 8 argsP .leaf iv49 .nil = true := by rw [← checkP_eq]; kernel_rfl
theorem g68 : check (cxK Try.prog 37 .nil .nil) 1000 8 argsP .leaf iv66 .nil = true := by rw [← checkP_eq]; kernel_rfl
theorem g83 : check (cxK Try.prog 37 .nil .nil) 1000 8 argsP .leaf iv81 .nil = true := by rw [← checkP_eq]; kernel_rfl
theorem g105 : check (cxK Try.prog 37 .nil .nil) 1000 8 argsP .leaf iv100 .nil = true := by rw [← checkP_eq]; kernel_rfl
end Go.Proofs.Ytlcamplkgcokjaa.PolT
