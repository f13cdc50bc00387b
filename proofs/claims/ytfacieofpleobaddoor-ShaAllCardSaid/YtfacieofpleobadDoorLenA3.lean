import Derived.Test.YtfacieofpleobadDoorShaP
import Derived.ProofKit
/-! Sums of some lengths. -/
namespace Go.Proofs.YtfacieofpleobadDoor.Closed
open Go Go.Sy Go.Sy.Sha Go.RowKit
set_option maxRecDepth 1000000 in
theorem runA_76 : vcSame (runSum Tryd.prog gl 100000 4 76 (mkA 9 7 kl gl)) (sumVC 76) = true := by kernel_rfl
theorem sumA_76 : BytesAt Tryd.prog gl 4 76 (sumN klN 76) := sum_bytes (hm := mixed) is_sum runA_76 (fun w ro hg => mkA_ok kl_lt is_press (fun {_ _ _ _ _ _ _ _ _ _ _} => press_calls mixed wayA_ok is_press kl_len kl_lt pressA) is_const const_ok w ro hg)
set_option maxRecDepth 1000000 in
theorem runA_77 : vcSame (runSum Tryd.prog gl 100000 4 77 (mkA 9 7 kl gl)) (sumVC 77) = true := by kernel_rfl
theorem sumA_77 : BytesAt Tryd.prog gl 4 77 (sumN klN 77) := sum_bytes (hm := mixed) is_sum runA_77 (fun w ro hg => mkA_ok kl_lt is_press (fun {_ _ _ _ _ _ _ _ _ _ _} => press_calls mixed wayA_ok is_press kl_len kl_lt pressA) is_const const_ok w ro hg)
set_option maxRecDepth 1000000 in
theorem runA_78 : vcSame (runSum Tryd.prog gl 100000 4 78 (mkA 9 7 kl gl)) (sumVC 78) = true := by kernel_rfl
theorem sumA_78 : BytesAt Tryd.prog gl 4 78 (sumN klN 78) := sum_bytes (hm := mixed) is_sum runA_78 (fun w ro hg => mkA_ok kl_lt is_press (fun {_ _ _ _ _ _ _ _ _ _ _} => press_calls mixed wayA_ok is_press kl_len kl_lt pressA) is_const const_ok w ro hg)
set_option maxRecDepth 1000000 in
theorem runA_79 : vcSame (runSum Tryd.prog gl 100000 4 79 (mkA 9 7 kl gl)) (sumVC 79) = true := by kernel_rfl
theorem sumA_79 : BytesAt Tryd.prog gl 4 79 (sumN klN 79) := sum_bytes (hm := mixed) is_sum runA_79 (fun w ro hg => mkA_ok kl_lt is_press (fun {_ _ _ _ _ _ _ _ _ _ _} => press_calls mixed wayA_ok is_press kl_len kl_lt pressA) is_const const_ok w ro hg)
set_option maxRecDepth 1000000 in
theorem runA_80 : vcSame (runSum Tryd.prog gl 100000 4 80 (mkA 9 7 kl gl)) (sumVC 80) = true := by kernel_rfl
theorem sumA_80 : BytesAt Tryd.prog gl 4 80 (sumN klN 80) := sum_bytes (hm := mixed) is_sum runA_80 (fun w ro hg => mkA_ok kl_lt is_press (fun {_ _ _ _ _ _ _ _ _ _ _} => press_calls mixed wayA_ok is_press kl_len kl_lt pressA) is_const const_ok w ro hg)
set_option maxRecDepth 1000000 in
theorem runA_81 : vcSame (runSum Tryd.prog gl 100000 4 81 (mkA 9 7 kl gl)) (sumVC 81) = true := by kernel_rfl
theorem sumA_81 : BytesAt Tryd.prog gl 4 81 (sumN klN 81) := sum_bytes (hm := mixed) is_sum runA_81 (fun w ro hg => mkA_ok kl_lt is_press (fun {_ _ _ _ _ _ _ _ _ _ _} => press_calls mixed wayA_ok is_press kl_len kl_lt pressA) is_const const_ok w ro hg)
set_option maxRecDepth 1000000 in
theorem runA_82 : vcSame (runSum Tryd.prog gl 100000 4 82 (mkA 9 7 kl gl)) (sumVC 82) = true := by kernel_rfl
theorem sumA_82 : BytesAt Tryd.prog gl 4 82 (sumN klN 82) := sum_bytes (hm := mixed) is_sum runA_82 (fun w ro hg => mkA_ok kl_lt is_press (fun {_ _ _ _ _ _ _ _ _ _ _} => press_calls mixed wayA_ok is_press kl_len kl_lt pressA) is_const const_ok w ro hg)
set_option maxRecDepth 1000000 in
theorem runA_83 : vcSame (runSum Tryd.prog gl 100000 4 83 (mkA 9 7 kl gl)) (sumVC 83) = true := by kernel_rfl
theorem sumA_83 : BytesAt Tryd.prog gl 4 83 (sumN klN 83) := sum_bytes (hm := mixed) is_sum runA_83 (fun w ro hg => mkA_ok kl_lt is_press (fun {_ _ _ _ _ _ _ _ _ _ _} => press_calls mixed wayA_ok is_press kl_len kl_lt pressA) is_const const_ok w ro hg)
set_option maxRecDepth 1000000 in
theorem runA_84 : vcSame (runSum Tryd.prog gl 100000 4 84 (mkA 9 7 kl gl)) (sumVC 84) = true := by kernel_rfl
theorem sumA_84 : BytesAt Tryd.prog gl 4 84 (sumN klN 84) := sum_bytes (hm := mixed) is_sum runA_84 (fun w ro hg => mkA_ok kl_lt is_press (fun {_ _ _ _ _ _ _ _ _ _ _} => press_calls mixed wayA_ok is_press kl_len kl_lt pressA) is_const const_ok w ro hg)
set_option maxRecDepth 1000000 in
theorem runA_85 : vcSame (runSum Tryd.prog gl 100000 4 85 (mkA 9 7 kl gl)) (sumVC 85) = true := by kernel_rfl
theorem sumA_85 : BytesAt Tryd.prog gl 4 85 (sumN klN 85) := sum_bytes (hm := mixed) is_sum runA_85 (fun w ro hg => mkA_ok kl_lt is_press (fun {_ _ _ _ _ _ _ _ _ _ _} => press_calls mixed wayA_ok is_press kl_len kl_lt pressA) is_const const_ok w ro hg)
set_option maxRecDepth 1000000 in
theorem runA_86 : vcSame (runSum Tryd.prog gl 100000 4 86 (mkA 9 7 kl gl)) (sumVC 86) = true := by kernel_rfl
theorem sumA_86 : BytesAt Tryd.prog gl 4 86 (sumN klN 86) := sum_bytes (hm := mixed) is_sum runA_86 (fun w ro hg => mkA_ok kl_lt is_press (fun {_ _ _ _ _ _ _ _ _ _ _} => press_calls mixed wayA_ok is_press kl_len kl_lt pressA) is_const const_ok w ro hg)
set_option maxRecDepth 1000000 in
theorem runA_87 : vcSame (runSum Tryd.prog gl 100000 4 87 (mkA 9 7 kl gl)) (sumVC 87) = true := by kernel_rfl
theorem sumA_87 : BytesAt Tryd.prog gl 4 87 (sumN klN 87) := sum_bytes (hm := mixed) is_sum runA_87 (fun w ro hg => mkA_ok kl_lt is_press (fun {_ _ _ _ _ _ _ _ _ _ _} => press_calls mixed wayA_ok is_press kl_len kl_lt pressA) is_const const_ok w ro hg)
set_option maxRecDepth 1000000 in
theorem runA_88 : vcSame (runSum Tryd.prog gl 100000 4 88 (mkA 9 7 kl gl)) (sumVC 88) = true := by kernel_rfl
theorem sumA_88 : BytesAt Tryd.prog gl 4 88 (sumN klN 88) := sum_bytes (hm := mixed) is_sum runA_88 (fun w ro hg => mkA_ok kl_lt is_press (fun {_ _ _ _ _ _ _ _ _ _ _} => press_calls mixed wayA_ok is_press kl_len kl_lt pressA) is_const const_ok w ro hg)
set_option maxRecDepth 1000000 in
theorem runA_89 : vcSame (runSum Tryd.prog gl 100000 4 89 (mkA 9 7 kl gl)) (sumVC 89) = true := by kernel_rfl
theorem sumA_89 : BytesAt Tryd.prog gl 4 89 (sumN klN 89) := sum_bytes (hm := mixed) is_sum runA_89 (fun w ro hg => mkA_ok kl_lt is_press (fun {_ _ _ _ _ _ _ _ _ _ _} => press_calls mixed wayA_ok is_press kl_len kl_lt pressA) is_const const_ok w ro hg)
set_option maxRecDepth 1000000 in
theorem runA_90 : vcSame (runSum Tryd.prog gl 100000 4 90 (mkA 9 7 kl gl)) (sumVC 90) = true := by kernel_rfl
theorem sumA_90 : BytesAt Tryd.prog gl 4 90 (sumN klN 90) := sum_bytes (hm := mixed) is_sum runA_90 (fun w ro hg => mkA_ok kl_lt is_press (fun {_ _ _ _ _ _ _ _ _ _ _} => press_calls mixed wayA_ok is_press kl_len kl_lt pressA) is_const const_ok w ro hg)
set_option maxRecDepth 1000000 in
theorem runA_91 : vcSame (runSum Tryd.prog gl 100000 4 91 (mkA 9 7 kl gl)) (sumVC 91) = true := by kernel_rfl
theorem sumA_91 : BytesAt Tryd.prog gl 4 91 (sumN klN 91) := sum_bytes (hm := mixed) is_sum runA_91 (fun w ro hg => mkA_ok kl_lt is_press (fun {_ _ _ _ _ _ _ _ _ _ _} => press_calls mixed wayA_ok is_press kl_len kl_lt pressA) is_const const_ok w ro hg)
set_option maxRecDepth 1000000 in
theorem runA_92 : vcSame (runSum Tryd.prog gl 100000 4 92 (mkA 9 7 kl gl)) (sumVC 92) = true := by kernel_rfl
theorem sumA_92 : BytesAt Tryd.prog gl 4 92 (sumN klN 92) := sum_bytes (hm := mixed) is_sum runA_92 (fun w ro hg => mkA_ok kl_lt is_press (fun {_ _ _ _ _ _ _ _ _ _ _} => press_calls mixed wayA_ok is_press kl_len kl_lt pressA) is_const const_ok w ro hg)
set_option maxRecDepth 1000000 in
theorem runA_93 : vcSame (runSum Tryd.prog gl 100000 4 93 (mkA 9 7 kl gl)) (sumVC 93) = true := by kernel_rfl
theorem sumA_93 : BytesAt Tryd.prog gl 4 93 (sumN klN 93) := sum_bytes (hm := mixed) is_sum runA_93 (fun w ro hg => mkA_ok kl_lt is_press (fun {_ _ _ _ _ _ _ _ _ _ _} => press_calls mixed wayA_ok is_press kl_len kl_lt pressA) is_const const_ok w ro hg)
set_option maxRecDepth 1000000 in
theorem runA_94 : vcSame (runSum Tryd.prog gl 100000 4 94 (mkA 9 7 kl gl)) (sumVC 94) = true := by kernel_rfl
theorem sumA_94 : BytesAt Tryd.prog gl 4 94 (sumN klN 94) := sum_bytes (hm := mixed) is_sum runA_94 (fun w ro hg => mkA_ok kl_lt is_press (fun {_ _ _ _ _ _ _ _ _ _ _} => press_calls mixed wayA_ok is_press kl_len kl_lt pressA) is_const const_ok w ro hg)
set_option maxRecDepth 1000000 in
theorem runA_95 : vcSame (runSum Tryd.prog gl 100000 4 95 (mkA 9 7 kl gl)) (sumVC 95) = true := by kernel_rfl
theorem sumA_95 : BytesAt Tryd.prog gl 4 95 (sumN klN 95) := sum_bytes (hm := mixed) is_sum runA_95 (fun w ro hg => mkA_ok kl_lt is_press (fun {_ _ _ _ _ _ _ _ _ _ _} => press_calls mixed wayA_ok is_press kl_len kl_lt pressA) is_const const_ok w ro hg)
set_option maxRecDepth 1000000 in
theorem runA_96 : vcSame (runSum Tryd.prog gl 100000 4 96 (mkA 9 7 kl gl)) (sumVC 96) = true := by kernel_rfl
theorem sumA_96 : BytesAt Tryd.prog gl 4 96 (sumN klN 96) := sum_bytes (hm := mixed) is_sum runA_96 (fun w ro hg => mkA_ok kl_lt is_press (fun {_ _ _ _ _ _ _ _ _ _ _} => press_calls mixed wayA_ok is_press kl_len kl_lt pressA) is_const const_ok w ro hg)
set_option maxRecDepth 1000000 in
theorem runA_97 : vcSame (runSum Tryd.prog gl 100000 4 97 (mkA 9 7 kl gl)) (sumVC 97) = true := by kernel_rfl
theorem sumA_97 : BytesAt Tryd.prog gl 4 97 (sumN klN 97) := sum_bytes (hm := mixed) is_sum runA_97 (fun w ro hg => mkA_ok kl_lt is_press (fun {_ _ _ _ _ _ _ _ _ _ _} => press_calls mixed wayA_ok is_press kl_len kl_lt pressA) is_const const_ok w ro hg)
set_option maxRecDepth 1000000 in
theorem runA_98 : vcSame (runSum Tryd.prog gl 100000 4 98 (mkA 9 7 kl gl)) (sumVC 98) = true := by kernel_rfl
theorem sumA_98 : BytesAt Tryd.prog gl 4 98 (sumN klN 98) := sum_bytes (hm := mixed) is_sum runA_98 (fun w ro hg => mkA_ok kl_lt is_press (fun {_ _ _ _ _ _ _ _ _ _ _} => press_calls mixed wayA_ok is_press kl_len kl_lt pressA) is_const const_ok w ro hg)
set_option maxRecDepth 1000000 in
theorem runA_99 : vcSame (runSum Tryd.prog gl 100000 4 99 (mkA 9 7 kl gl)) (sumVC 99) = true := by kernel_rfl
theorem sumA_99 : BytesAt Tryd.prog gl 4 99 (sumN klN 99) := sum_bytes (hm := mixed) is_sum runA_99 (fun w ro hg => mkA_ok kl_lt is_press (fun {_ _ _ _ _ _ _ _ _ _ _} => press_calls mixed wayA_ok is_press kl_len kl_lt pressA) is_const const_ok w ro hg)
set_option maxRecDepth 1000000 in
theorem runA_100 : vcSame (runSum Tryd.prog gl 100000 4 100 (mkA 9 7 kl gl)) (sumVC 100) = true := by kernel_rfl
theorem sumA_100 : BytesAt Tryd.prog gl 4 100 (sumN klN 100) := sum_bytes (hm := mixed) is_sum runA_100 (fun w ro hg => mkA_ok kl_lt is_press (fun {_ _ _ _ _ _ _ _ _ _ _} => press_calls mixed wayA_ok is_press kl_len kl_lt pressA) is_const const_ok w ro hg)
theorem allA_3 : BAll Tryd.prog gl 4 [76, 77, 78, 79, 80, 81, 82, 83, 84, 85, 86, 87, 88, 89, 90, 91, 92, 93, 94, 95, 96, 97, 98, 99, 100] := ball_cons sumA_76 (ball_cons sumA_77 (ball_cons sumA_78 (ball_cons sumA_79 (ball_cons sumA_80 (ball_cons sumA_81 (ball_cons sumA_82 (ball_cons sumA_83 (ball_cons sumA_84 (ball_cons sumA_85 (ball_cons sumA_86 (ball_cons sumA_87 (ball_cons sumA_88 (ball_cons sumA_89 (ball_cons sumA_90 (ball_cons sumA_91 (ball_cons sumA_92 (ball_cons sumA_93 (ball_cons sumA_94 (ball_cons sumA_95 (ball_cons sumA_96 (ball_cons sumA_97 (ball_cons sumA_98 (ball_cons sumA_99 (ball_cons sumA_100 (ball_nil)))))))))))))))))))))))))
end Go.Proofs.YtfacieofpleobadDoor.Closed
