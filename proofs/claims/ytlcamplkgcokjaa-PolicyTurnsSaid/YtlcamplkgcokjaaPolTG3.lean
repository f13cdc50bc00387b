import Derived.Test.YtlcamplkgcokjaaPolTD
namespace Go.Proofs.Ytlcamplkgcokjaa.PolT
open Go.Sx
theorem g119 : check (cxK Try.prog 37 .nil .nil) 1000 8 argsP (.cut 4 2 (.cut 0 3 (.cut 0 2 .leaf (.ord 12 5 .leaf .leaf .leaf)) (.cut 0 4 (.ord 5 12 .leaf .leaf .leaf) (.cut 0 5 (.ord 16 9 .leaf .leaf .leaf) (.cut 0 6 .leaf .leaf)))) (.cut 4 3 (.cut 0 3 (.cut 0 2 .leaf (.ord 12 5 .leaf .leaf .leaf)) (.cut 0 4 (.ord 5 12 .leaf .leaf .leaf) (.cut 0 5 (.ord 16 9 .leaf .leaf .leaf) (.cut 0 6 .leaf .leaf)))) (.cut 0 3 (.cut 0 2 .leaf (.ord 12 5 .leaf .leaf .leaf)) (.cut 0 4 (.ord 5 12 .leaf .leaf .leaf) (.cut 0 5 (.ord 16 9 .leaf .leaf .leaf) (.cut 0 6 .leaf .leaf)))))) iv117 .nil = true := by rw [← checkP_eq]; kernel_rfl
theorem g104 : check (cxK Try.prog 37 .nil .nil) 1000 8 argsP (.cut 11 3 (.cut 4 2 .leaf (.cut 4 3 .leaf .leaf)) (.cut 4 2 (.cut 0 3 (.cut 0 2 .leaf (.ord 12 5 .leaf .leaf .leaf)) (.cut 0 4 (.ord 5 12 .leaf .leaf .leaf) (.cut 0 5 (.ord 16 9 .leaf .leaf .leaf) (.cut 0 6 .leaf .leaf)))) (.cut 4 3 .leaf (.cut 0 3 (.cut 0 2 .leaf (.ord 12 5 .leaf .leaf .leaf)) (.cut 0 4 (.ord 5 12 .leaf .leaf .leaf) (.cut 0 5 (.ord 16 9 .leaf .leaf .leaf) (.cut 0 6 .leaf .leaf))))))) iv102 .nil = true := by rw [← checkP_eq]; kernel_rfl
theorem g88 : check (cxK Try.prog 37 .nil .nil) 1000 8 argsP (.cut 4 2 (.cut 0 3 (.cut 0 2 .leaf (.ord 12 5 .leaf .leaf .leaf)) (.cut 0 4 (.ord 5 12 .leaf .leaf .leaf) (.cut 0 5 (.ord 16 9 .leaf .leaf .leaf) (.cut 0 6 .leaf .leaf)))) (.cut 4 3 .leaf (.cut 0 3 (.cut 0 2 .leaf (.ord 12 5 .leaf .leaf .leaf)) (.cut 0 4 (.ord 5 12 .leaf .leaf .leaf) (.cut 0 5 (.ord 16 9 .leaf .leaf .leaf) (.cut 0 6 .leaf .leaf)))))) iv86 .nil = true := by rw [← checkP_eq]; kernel_rfl
theorem g64 : check (cxK Try.prog 37 .nil .nil) 1000 8 argsP (.cut 1 1 .leaf (.cut 1 2 .leaf (.cut 1 7 .leaf (.cut 1 8 .leaf (.cut 1 9 .leaf .leaf))))) iv17 .nil = true := by rw [← checkP_eq]; kernel_rfl
theorem g122 : check (cxK Try.prog 37 .nil .nil) 1000 8 argsP (.cut 1 1 .leaf (.cut 1 2 .leaf (.cut 1 7 .leaf (.cut 1 8 .leaf (.cut 1 9 .leaf .leaf))))) iv75 .nil = true := by rw [← checkP_eq]; kernel_rfl
theorem g124 : check (cxK Try.prog 37 .nil .nil) 1000 8 argsP (.cut 10 0 .leaf (.cut 10 2 (.cut 10 1 .leaf .leaf) .leaf)) iv5 .nil = true := by rw [← checkP_eq]; kernel_rfl
theorem g123 : check (cxK Try.prog 37 .nil .nil) 1000 8 argsP (.cut 10 2 .leaf .leaf) iv70 .nil = true := by rw [← checkP_eq]; kernel_rfl
theorem g25 : check (cxK Try.prog 37 .nil .nil) 1000 8 argsP .leaf iv23 .nil = true := by rw [← checkP_eq]; kernel_rfl
theorem g35 : check (cxK Try.prog 37 .nil .nil) 1000 8 argsP .leaf iv33 .nil = true := by rw [← checkP_eq]; kernel_rfl
theorem g47 : check (cxK Try.prog 37 .nil .nil) 1000 8 argsP .leaf iv42 .nil = true := by rw [← checkP_eq]; kernel_rfl
theorem g62 : check (cxK Try.prog 37 .nil .nil) 1000 8 argsP .leaf iv54 .nil = true := by rw [← checkP_eq]; kernel_rfl
theorem g65 : check (cxK Try.prog 37 .nil .nil) 1000 8 argsP .leaf iv12 .nil = true := by rw [← checkP_eq]; kernel_rfl
theorem g78 : check (cxK Try.prog 37 .nil .nil) 1000 8 argsP .leaf iv76 .nil = true := by rw [← checkP_eq]; kernel_rfl
theorem g90 : check (cxK Try.prog 37 .nil .nil) 1000 8 argsP .leaf iv85 .nil = true := by rw [← checkP_eq]; kernel_rfl
theorem g110 : check (cxK Try.prog 37 .nil .nil) 1000 8 argsP .leaf iv108 .nil = true := by rw [← checkP_eq]; kernel_rfl
end Go.Proofs.Ytlcamplkgcokjaa.PolT
