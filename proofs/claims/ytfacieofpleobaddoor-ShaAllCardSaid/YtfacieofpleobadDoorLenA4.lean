import Derived.Test.YtfacieofpleobadDoorShaP
import Derived.ProofKit
/-! Sums of some lengths. -/
namespace Go.Proofs.YtfacieofpleobadDoor.Closed
open Go Go.Sy Go.Sy.Sha Go.RowKit
set_option maxRecDepth 1000000 in
theorem runA_101 : vcSame (runSum Tryd.prog gl 100000 4 101 (mkA 9 7 kl gl)) (sumVC 101) = true := by kernel_rfl
theorem sumA_101 : BytesAt Tryd.prog gl 4 101 (sumN klN 101) := sum_bytes (hm := mixed) is_sum runA_101 (fun w ro hg => mkA_ok kl_lt is_press (fun {_ _ _ _ _ _ _ _ _ _ _} => press_calls mixed wayA_ok is_press kl_len kl_lt pressA) is_const const_ok w ro hg)
set_option maxRecDepth 1000000 in
theorem runA_102 : vcSame (runSum Tryd.prog gl 100000 4 102 (mkA 9 7 kl gl)) (sumVC 102) = true := by kernel_rfl
theorem sumA_102 : BytesAt Tryd.prog gl 4 102 (sumN klN 102) := sum_bytes (hm := mixed) is_sum runA_102 (fun w ro hg => mkA_ok kl_lt is_press (fun {_ _ _ _ _ _ _ _ _ _ _} => press_calls mixed wayA_ok is_press kl_len kl_lt pressA) is_const const_ok w ro hg)
set_option maxRecDepth 1000000 in
theorem runA_103 : vcSame (runSum Tryd.prog gl 100000 4 103 (mkA 9 7 kl gl)) (sumVC 103) = true := by kernel_rfl
theorem sumA_103 : BytesAt Tryd.prog gl 4 103 (sumN klN 103) := sum_bytes (hm := mixed) is_sum runA_103 (fun w ro hg => mkA_ok kl_lt is_press (fun {_ _ _ _ _ _ _ _ _ _ _} => press_calls mixed wayA_ok is_press kl_len kl_lt pressA) is_const const_ok w ro hg)
set_option maxRecDepth 1000000 in
theorem runA_104 : vcSame (runSum Tryd.prog gl 100000 4 104 (mkA 9 7 kl gl)) (sumVC 104) = true := by kernel_rfl
theorem sumA_104 : BytesAt Tryd.prog gl 4 104 (sumN klN 104) := sum_bytes (hm := mixed) is_sum runA_104 (fun w ro hg => mkA_ok kl_lt is_press (fun {_ _ _ _ _ _ _ _ _ _ _} => press_calls mixed wayA_ok is_press kl_len kl_lt pressA) is_const const_ok w ro hg)
set_option maxRecDepth 1000000 in
theorem runA_105 : vcSame (runSum Tryd.prog gl 100000 4 105 (mkA 9 7 kl gl)) (sumVC 105) = true := by kernel_rfl
theorem sumA_105 : BytesAt Tryd.prog gl 4 105 (sumN klN 105) := sum_bytes (hm := mixed) is_sum runA_105 (fun w ro hg => mkA_ok kl_lt is_press (fun {_ _ _ _ _ _ _ _ _ _ _} => press_calls mixed wayA_ok is_press kl_len kl_lt pressA) is_const const_ok w ro hg)
set_option maxRecDepth 1000000 in
theorem runA_106 : vcSame (runSum Tryd.prog gl 100000 4 106 (mkA 9 7 kl gl)) (sumVC 106) = true := by kernel_rfl
theorem sumA_106 : BytesAt Tryd.prog gl 4 106 (sumN klN 106) := sum_bytes (hm := mixed) is_sum runA_106 (fun w ro hg => mkA_ok kl_lt is_press (fun {_ _ _ _ _ _ _ _ _ _ _} => press_calls mixed wayA_ok is_press kl_len kl_lt pressA) is_const const_ok w ro hg)
set_option maxRecDepth 1000000 in
theorem runA_107 : vcSame (runSum Tryd.prog gl 100000 4 107 (mkA 9 7 kl gl)) (sumVC 107) = true := by kernel_rfl
theorem sumA_107 : BytesAt Tryd.prog gl 4 107 (sumN klN 107) := sum_bytes (hm := mixed) is_sum runA_107 (fun w ro hg => mkA_ok kl_lt is_press (fun {_ _ _ _ _ _ _ _ _ _ _} => press_calls mixed wayA_ok is_press kl_len kl_lt pressA) is_const const_ok w ro hg)
set_option maxRecDepth 1000000 in
theorem runA_108 : vcSame (runSum Tryd.prog gl 100000 4 108 (mkA 9 7 kl gl)) (sumVC 108) = true := by kernel_rfl
theorem sumA_108 : BytesAt Tryd.prog gl 4 108 (sumN klN 108) := sum_bytes (hm := mixed) is_sum runA_108 (fun w ro hg => mkA_ok kl_lt is_press (fun {_ _ _ _ _ _ _ _ _ _ _} => press_calls mixed wayA_ok is_press kl_len kl_lt pressA) is_const const_ok w ro hg)
set_option maxRecDepth 1000000 in
theorem runA_109 : vcSame (runSum Tryd.prog gl 100000 4 109 (mkA 9 7 kl gl)) (sumVC 109) = true := by kernel_rfl
theorem sumA_109 : BytesAt Tryd.prog gl 4 109 (sumN klN 109) := sum_bytes (hm := mixed) is_sum runA_109 (fun w ro hg => mkA_ok kl_lt is_press (fun {_ _ _ _ _ _ _ _ _ _ _} => press_calls mixed wayA_ok is_press kl_len kl_lt pressA) is_const const_ok w ro hg)
set_option maxRecDepth 1000000 in
theorem runA_110 : vcSame (runSum Tryd.prog gl 100000 4 110 (mkA 9 7 kl gl)) (sumVC 110) = true := by kernel_rfl
theorem sumA_110 : BytesAt Tryd.prog gl 4 110 (sumN klN 110) := sum_bytes (hm := mixed) is_sum runA_110 (fun w ro hg => mkA_ok kl_lt is_press (fun {_ _ _ _ _ _ _ _ _ _ _} => press_calls mixed wayA_ok is_press kl_len kl_lt pressA) is_const const_ok w ro hg)
set_option maxRecDepth 1000000 in
theorem runA_111 : vcSame (runSum Tryd.prog gl 100000 4 111 (mkA 9 7 kl gl)) (sumVC 111) = true := by kernel_rfl
theorem sumA_111 : BytesAt Tryd.prog gl 4 111 (sumN klN 111) := sum_bytes (hm := mixed) is_sum runA_111 (fun w ro hg => mkA_ok kl_lt is_press (fun {_ _ _ _ _ _ _ _ _ _ _} => press_calls mixed wayA_ok is_press kl_len kl_lt pressA) is_const const_ok w ro hg)
set_option maxRecDepth 1000000 in
theorem runA_112 : vcSame (runSum Tryd.prog gl 100000 4 112 (mkA 9 7 kl gl)) (sumVC 112) = true := by kernel_rfl
theorem sumA_112 : BytesAt Tryd.prog gl 4 112 (sumN klN 112) := sum_bytes (hm := mixed) is_sum runA_112 (fun w ro hg => mkA_ok kl_lt is_press (fun {_ _ _ _ _ _ _ _ _ _ _} => press_calls mixed wayA_ok is_press kl_len kl_lt pressA) is_const const_ok w ro hg)
set_option maxRecDepth 1000000 in
theorem runA_113 : vcSame (runSum Tryd.prog gl 100000 4 113 (mkA 9 7 kl gl)) (sumVC 113) = true := by kernel_rfl
theorem sumA_113 : BytesAt Tryd.prog gl 4 113 (sumN klN 113) := sum_bytes (hm := mixed) is_sum runA_113 (fun w ro hg => mkA_ok kl_lt is_press (fun {_ _ _ _ _ _ _ _ _ _ _} => press_calls mixed wayA_ok is_press kl_len kl_lt pressA) is_const const_ok w ro hg)
set_option maxRecDepth 1000000 in
theorem runA_114 : vcSame (runSum Tryd.prog gl 100000 4 114 (mkA 9 7 kl gl)) (sumVC 114) = true := by kernel_rfl
theorem sumA_114 : BytesAt Tryd.prog gl 4 114 (sumN klN 114) := sum_bytes (hm := mixed) is_sum runA_114 (fun w ro hg => mkA_ok kl_lt is_press (fun {_ _ _ _ _ _ _ _ _ _ _} => press_calls mixed wayA_ok is_press kl_len kl_lt pressA) is_const const_ok w ro hg)
set_option maxRecDepth 1000000 in
theorem runA_115 : vcSame (runSum Tryd.prog gl 100000 4 115 (mkA 9 7 kl gl)) (sumVC 115) = true := by kernel_rfl
theorem sumA_115 : BytesAt Tryd.prog gl 4 115 (sumN klN 115) := sum_bytes (hm := mixed) is_sum runA_115 (fun w ro hg => mkA_ok kl_lt is_press (fun {_ _ _ _ _ _ _ _ _ _ _} => press_calls mixed wayA_ok is_press kl_len kl_lt pressA) is_const const_ok w ro hg)
set_option maxRecDepth 1000000 in
theorem runA_116 : vcSame (runSum Tryd.prog gl 100000 4 116 (mkA 9 7 kl gl)) (sumVC 116) = true := by kernel_rfl
theorem sumA_116 : BytesAt Tryd.prog gl 4 116 (sumN klN 116) := sum_bytes (hm := mixed) is_sum runA_116 (fun w ro hg => mkA_ok kl_lt is_press (fun {_ _ _ _ _ _ _ _ _ _ _} => press_calls mixed wayA_ok is_press kl_len kl_lt pressA) is_const const_ok w ro hg)
set_option maxRecDepth 1000000 in
theorem runA_117 : vcSame (runSum Tryd.prog gl 100000 4 117 (mkA 9 7 kl gl)) (sumVC 117) = true := by kernel_rfl
theorem sumA_117 : BytesAt Tryd.prog gl 4 117 (sumN klN 117) := sum_bytes (hm := mixed) is_sum runA_117 (fun w ro hg => mkA_ok kl_lt is_press (fun {_ _ _ _ _ _ _ _ _ _ _} => press_calls mixed wayA_ok is_press kl_len kl_lt pressA) is_const const_ok w ro hg)
set_option maxRecDepth 1000000 in
theorem runA_118 : vcSame (runSum Tryd.prog gl 100000 4 118 (mkA 9 7 kl gl)) (sumVC 118) = true := by kernel_rfl
theorem sumA_118 : BytesAt Tryd.prog gl 4 118 (sumN klN 118) := sum_bytes (hm := mixed) is_sum runA_118 (fun w ro hg => mkA_ok kl_lt is_press (fun {_ _ _ _ _ _ _ _ _ _ _} => press_calls mixed wayA_ok is_press kl_len kl_lt pressA) is_const const_ok w ro hg)
set_option maxRecDepth 1000000 in
theorem runA_119 : vcSame (runSum Tryd.prog gl 100000 4 119 (mkA 9 7 kl gl)) (sumVC 119) = true := by kernel_rfl
theorem sumA_119 : BytesAt Tryd.prog gl 4 119 (sumN klN 119) := sum_bytes (hm := mixed) is_sum runA_119 (fun w ro hg => mkA_ok kl_lt is_press (fun {_ _ _ _ _ _ _ _ _ _ _} => press_calls mixed wayA_ok is_press kl_len kl_lt pressA) is_const const_ok w ro hg)
set_option maxRecDepth 1000000 in
theorem runA_120 : vcSame (runSum Tryd.prog gl 100000 4 120 (mkA 9 7 kl gl)) (sumVC 120) = true := by kernel_rfl
theorem sumA_120 : BytesAt Tryd.prog gl 4 120 (sumN klN 120) := sum_bytes (hm := mixed) is_sum runA_120 (fun w ro hg => mkA_ok kl_lt is_press (fun {_ _ _ _ _ _ _ _ _ _ _} => press_calls mixed wayA_ok is_press kl_len kl_lt pressA) is_const const_ok w ro hg)
set_option maxRecDepth 1000000 in
theorem runA_121 : vcSame (runSum Tryd.prog gl 100000 4 121 (mkA 9 7 kl gl)) (sumVC 121) = true := by kernel_rfl
theorem sumA_121 : BytesAt Tryd.prog gl 4 121 (sumN klN 121) := sum_bytes (hm := mixed) is_sum runA_121 (fun w ro hg => mkA_ok kl_lt is_press (fun {_ _ _ _ _ _ _ _ _ _ _} => press_calls mixed wayA_ok is_press kl_len kl_lt pressA) is_const const_ok w ro hg)
set_option maxRecDepth 1000000 in
theorem runA_122 : vcSame (runSum Tryd.prog gl 100000 4 122 (mkA 9 7 kl gl)) (sumVC 122) = true := by kernel_rfl
theorem sumA_122 : BytesAt Tryd.prog gl 4 122 (sumN klN 122) := sum_bytes (hm := mixed) is_sum runA_122 (fun w ro hg => mkA_ok kl_lt is_press (fun {_ _ _ _ _ _ _ _ _ _ _} => press_calls mixed wayA_ok is_press kl_len kl_lt pressA) is_const const_ok w ro hg)
set_option maxRecDepth 1000000 in
theorem runA_123 : vcSame (runSum Tryd.prog gl 100000 4 123 (mkA 9 7 kl gl)) (sumVC 123) = true := by kernel_rfl
theorem sumA_123 : BytesAt Tryd.prog gl 4 123 (sumN klN 123) := sum_bytes (hm := mixed) is_sum runA_123 (fun w ro hg => mkA_ok kl_lt is_press (fun {_ _ _ _ _ _ _ _ _ _ _} => press_calls mixed wayA_ok is_press kl_len kl_lt pressA) is_const const_ok w ro hg)
set_option maxRecDepth 1000000 in
theorem runA_124 : vcSame (runSum Tryd.prog gl 100000 4 124 (mkA 9 7 kl gl)) (sumVC 124) = true := by kernel_rfl
theorem sumA_124 : BytesAt Tryd.prog gl 4 124 (sumN klN 124) := sum_bytes (hm := mixed) is_sum runA_124 (fun w ro hg => mkA_ok kl_lt is_press (fun {_ _ _ _ _ _ _ _ _ _ _} => press_calls mixed wayA_ok is_press kl_len kl_lt pressA) is_const const_ok w ro hg)
set_option maxRecDepth 1000000 in
theorem runA_125 : vcSame (runSum Tryd.prog gl 100000 4 125 (mkA 9 7 kl gl)) (sumVC 125) = true := by kernel_rfl
theorem sumA_125 : BytesAt Tryd.prog gl 4 125 (sumN klN 125) := sum_bytes (hm := mixed) is_sum runA_125 (fun w ro hg => mkA_ok kl_lt is_press (fun {_ _ _ _ _ _ _ _ _ _ _} => press_calls mixed wayA_ok is_press kl_len kl_lt pressA) is_const const_ok w ro hg)
theorem allA_4 : BAll Tryd.prog gl 4 [101, 102, 103, 104, 105, 106, 107, 108, 109, 110, 111, 112, 113, 114, 115, 116, 117, 118, 119, 120, 121, 122, 123, 124, 125] := ball_cons sumA_101 (ball_cons sumA_102 (ball_cons sumA_103 (ball_cons sumA_104 (ball_cons sumA_105 (ball_cons sumA_106 (ball_cons sumA_107 (ball_cons sumA_108 (ball_cons sumA_109 (ball_cons sumA_110 (ball_cons sumA_111 (ball_cons sumA_112 (ball_cons sumA_113 (ball_cons sumA_114 (ball_cons sumA_115 (ball_cons sumA_116 (ball_cons sumA_117 (ball_cons sumA_118 (ball_cons sumA_119 (ball_cons sumA_120 (ball_cons sumA_121 (ball_cons sumA_122 (ball_cons sumA_123 (ball_cons sumA_124 (ball_cons sumA_125 (ball_nil)))))))))))))))))))))))))
end Go.Proofs.YtfacieofpleobadDoor.Closed
