import Derived.Test.YtfacieofpleobadDoorShaP
import Derived.ProofKit
/-! Sums of some lengths. -/
namespace Go.Proofs.YtfacieofpleobadDoor.Closed
open Go Go.Sy Go.Sy.Sha Go.RowKit
set_option maxRecDepth 1000000 in
theorem runA_126 : vcSame (runSum Tryd.prog gl 100000 4 126 (mkA 9 7 kl gl)) (sumVC 126) = true := by kernel_rfl
theorem sumA_126 : BytesAt Tryd.prog gl 4 126 (sumN klN 126) := sum_bytes (hm := mixed) is_sum runA_126 (fun w ro hg => mkA_ok kl_lt is_press (fun {_ _ _ _ _ _ _ _ _ _ _} => press_calls mixed wayA_ok is_press kl_len kl_lt pressA) is_const const_ok w ro hg)
set_option maxRecDepth 1000000 in
theorem runA_127 : vcSame (runSum Tryd.prog gl 100000 4 127 (mkA 9 7 kl gl)) (sumVC 127) = true := by kernel_rfl
theorem sumA_127 : BytesAt Tryd.prog gl 4 127 (sumN klN 127) := sum_bytes (hm := mixed) is_sum runA_127 (fun w ro hg => mkA_ok kl_lt is_press (fun {_ _ _ _ _ _ _ _ _ _ _} => press_calls mixed wayA_ok is_press kl_len kl_lt pressA) is_const const_ok w ro hg)
set_option maxRecDepth 1000000 in
theorem runA_128 : vcSame (runSum Tryd.prog gl 100000 4 128 (mkA 9 7 kl gl)) (sumVC 128) = true := by kernel_rfl
theorem sumA_128 : BytesAt Tryd.prog gl 4 128 (sumN klN 128) := sum_bytes (hm := mixed) is_sum runA_128 (fun w ro hg => mkA_ok kl_lt is_press (fun {_ _ _ _ _ _ _ _ _ _ _} => press_calls mixed wayA_ok is_press kl_len kl_lt pressA) is_const const_ok w ro hg)
set_option maxRecDepth 1000000 in
theorem runA_129 : vcSame (runSum Tryd.prog gl 100000 4 129 (mkA 9 7 kl gl)) (sumVC 129) = true := by kernel_rfl
theorem sumA_129 : BytesAt Tryd.prog gl 4 129 (sumN klN 129) := sum_bytes (hm := mixed) is_sum runA_129 (fun w ro hg => mkA_ok kl_lt is_press (fun {_ _ _ _ _ _ _ _ _ _ _} => press_calls mixed wayA_ok is_press kl_len kl_lt pressA) is_const const_ok w ro hg)
set_option maxRecDepth 1000000 in
theorem runA_130 : vcSame (runSum Tryd.prog gl 100000 4 130 (mkA 9 7 kl gl)) (sumVC 130) = true := by kernel_rfl
theorem sumA_130 : BytesAt Tryd.prog gl 4 130 (sumN klN 130) := sum_bytes (hm := mixed) is_sum runA_130 (fun w ro hg => mkA_ok kl_lt is_press (fun {_ _ _ _ _ _ _ _ _ _ _} => press_calls mixed wayA_ok is_press kl_len kl_lt pressA) is_const const_ok w ro hg)
set_option maxRecDepth 1000000 in
theorem runA_131 : vcSame (runSum Tryd.prog gl 100000 4 131 (mkA 9 7 kl gl)) (sumVC 131) = true := by kernel_rfl
theorem sumA_131 : BytesAt Tryd.prog gl 4 131 (sumN klN 131) := sum_bytes (hm := mixed) is_sum runA_131 (fun w ro hg => mkA_ok kl_lt is_press (fun {_ _ _ _ _ _ _ _ _ _ _} => press_calls mixed wayA_ok is_press kl_len kl_lt pressA) is_const const_ok w ro hg)
set_option maxRecDepth 1000000 in
theorem runA_132 : vcSame (runSum Tryd.prog gl 100000 4 132 (mkA 9 7 kl gl)) (sumVC 132) = true := by kernel_rfl
theorem sumA_132 : BytesAt Tryd.prog gl 4 132 (sumN klN 132) := sum_bytes (hm := mixed) is_sum runA_132 (fun w ro hg => mkA_ok kl_lt is_press (fun {_ _ _ _ _ _ _ _ _ _ _} => press_calls mixed wayA_ok is_press kl_len kl_lt pressA) is_const const_ok w ro hg)
set_option maxRecDepth 1000000 in
theorem runA_133 : vcSame (runSum Tryd.prog gl 100000 4 133 (mkA 9 7 kl gl)) (sumVC 133) = true := by kernel_rfl
theorem sumA_133 : BytesAt Tryd.prog gl 4 133 (sumN klN 133) := sum_bytes (hm := mixed) is_sum runA_133 (fun w ro hg => mkA_ok kl_lt is_press (fun {_ _ _ _ _ _ _ _ _ _ _} => press_calls mixed wayA_ok is_press kl_len kl_lt pressA) is_const const_ok w ro hg)
set_option maxRecDepth 1000000 in
theorem runA_134 : vcSame (runSum Tryd.prog gl 100000 4 134 (mkA 9 7 kl gl)) (sumVC 134) = true := by kernel_rfl
theorem sumA_134 : BytesAt Tryd.prog gl 4 134 (sumN klN 134) := sum_bytes (hm := mixed) is_sum runA_134 (fun w ro hg => mkA_ok kl_lt is_press (fun {_ _ _ _ _ _ _ _ _ _ _} => press_calls mixed wayA_ok is_press kl_len kl_lt pressA) is_const const_ok w ro hg)
set_option maxRecDepth 1000000 in
theorem runA_135 : vcSame (runSum Tryd.prog gl 100000 4 135 (mkA 9 7 kl gl)) (sumVC 135) = true := by kernel_rfl
theorem sumA_135 : BytesAt Tryd.prog gl 4 135 (sumN klN 135) := sum_bytes (hm := mixed) is_sum runA_135 (fun w ro hg => mkA_ok kl_lt is_press (fun {_ _ _ _ _ _ _ _ _ _ _} => press_calls mixed wayA_ok is_press kl_len kl_lt pressA) is_const const_ok w ro hg)
set_option maxRecDepth 1000000 in
theorem runA_136 : vcSame (runSum Tryd.prog gl 100000 4 136 (mkA 9 7 kl gl)) (sumVC 136) = true := by kernel_rfl
theorem sumA_136 : BytesAt Tryd.prog gl 4 136 (sumN klN 136) := sum_bytes (hm := mixed) is_sum runA_136 (fun w ro hg => mkA_ok kl_lt is_press (fun {_ _ _ _ _ _ _ _ _ _ _} => press_calls mixed wayA_ok is_press kl_len kl_lt pressA) is_const const_ok w ro hg)
set_option maxRecDepth 1000000 in
theorem runA_137 : vcSame (runSum Tryd.prog gl 100000 4 137 (mkA 9 7 kl gl)) (sumVC 137) = true := by kernel_rfl
theorem sumA_137 : BytesAt Tryd.prog gl 4 137 (sumN klN 137) := sum_bytes (hm := mixed) is_sum runA_137 (fun w ro hg => mkA_ok kl_lt is_press (fun {_ _ _ _ _ _ _ _ _ _ _} => press_calls mixed wayA_ok is_press kl_len kl_lt pressA) is_const const_ok w ro hg)
set_option maxRecDepth 1000000 in
theorem runA_138 : vcSame (runSum Tryd.prog gl 100000 4 138 (mkA 9 7 kl gl)) (sumVC 138) = true := by kernel_rfl
theorem sumA_138 : BytesAt Tryd.prog gl 4 138 (sumN klN 138) := sum_bytes (hm := mixed) is_sum runA_138 (fun w ro hg => mkA_ok kl_lt is_press (fun {_ _ _ _ _ _ _ _ _ _ _} => press_calls mixed wayA_ok is_press kl_len kl_lt pressA) is_const const_ok w ro hg)
set_option maxRecDepth 1000000 in
theorem runA_139 : vcSame (runSum Tryd.prog gl 100000 4 139 (mkA 9 7 kl gl)) (sumVC 139) = true := by kernel_rfl
theorem sumA_139 : BytesAt Tryd.prog gl 4 139 (sumN klN 139) := sum_bytes (hm := mixed) is_sum runA_139 (fun w ro hg => mkA_ok kl_lt is_press (fun {_ _ _ _ _ _ _ _ _ _ _} => press_calls mixed wayA_ok is_press kl_len kl_lt pressA) is_const const_ok w ro hg)
set_option maxRecDepth 1000000 in
theorem runA_140 : vcSame (runSum Tryd.prog gl 100000 4 140 (mkA 9 7 kl gl)) (sumVC 140) = true := by kernel_rfl
theorem sumA_140 : BytesAt Tryd.prog gl 4 140 (sumN klN 140) := sum_bytes (hm := mixed) is_sum runA_140 (fun w ro hg => mkA_ok kl_lt is_press (fun {_ _ _ _ _ _ _ _ _ _ _} => press_calls mixed wayA_ok is_press kl_len kl_lt pressA) is_const const_ok w ro hg)
set_option maxRecDepth 1000000 in
theorem runA_141 : vcSame (runSum Tryd.prog gl 100000 4 141 (mkA 9 7 kl gl)) (sumVC 141) = true := by kernel_rfl
theorem sumA_141 : BytesAt Tryd.prog gl 4 141 (sumN klN 141) := sum_bytes (hm := mixed) is_sum runA_141 (fun w ro hg => mkA_ok kl_lt is_press (fun {_ _ _ _ _ _ _ _ _ _ _} => press_calls mixed wayA_ok is_press kl_len kl_lt pressA) is_const const_ok w ro hg)
set_option maxRecDepth 1000000 in
theorem runA_142 : vcSame (runSum Tryd.prog gl 100000 4 142 (mkA 9 7 kl gl)) (sumVC 142) = true := by kernel_rfl
theorem sumA_142 : BytesAt Tryd.prog gl 4 142 (sumN klN 142) := sum_bytes (hm := mixed) is_sum runA_142 (fun w ro hg => mkA_ok kl_lt is_press (fun {_ _ _ _ _ _ _ _ _ _ _} => press_calls mixed wayA_ok is_press kl_len kl_lt pressA) is_const const_ok w ro hg)
set_option maxRecDepth 1000000 in
theorem runA_143 : vcSame (runSum Tryd.prog gl 100000 4 143 (mkA 9 7 kl gl)) (sumVC 143) = true := by kernel_rfl
theorem sumA_143 : BytesAt Tryd.prog gl 4 143 (sumN klN 143) := sum_bytes (hm := mixed) is_sum runA_143 (fun w ro hg => mkA_ok kl_lt is_press (fun {_ _ _ _ _ _ _ _ _ _ _} => press_calls mixed wayA_ok is_press kl_len kl_lt pressA) is_const const_ok w ro hg)
set_option maxRecDepth 1000000 in
theorem runA_144 : vcSame (runSum Tryd.prog gl 100000 4 144 (mkA 9 7 kl gl)) (sumVC 144) = true := by kernel_rfl
theorem sumA_144 : BytesAt Tryd.prog gl 4 144 (sumN klN 144) := sum_bytes (hm := mixed) is_sum runA_144 (fun w ro hg => mkA_ok kl_lt is_press (fun {_ _ _ _ _ _ _ _ _ _ _} => press_calls mixed wayA_ok is_press kl_len kl_lt pressA) is_const const_ok w ro hg)
set_option maxRecDepth 1000000 in
theorem runA_145 : vcSame (runSum Tryd.prog gl 100000 4 145 (mkA 9 7 kl gl)) (sumVC 145) = true := by kernel_rfl
theorem sumA_145 : BytesAt Tryd.prog gl 4 145 (sumN klN 145) := sum_bytes (hm := mixed) is_sum runA_145 (fun w ro hg => mkA_ok kl_lt is_press (fun {_ _ _ _ _ _ _ _ _ _ _} => press_calls mixed wayA_ok is_press kl_len kl_lt pressA) is_const const_ok w ro hg)
set_option maxRecDepth 1000000 in
theorem runA_146 : vcSame (runSum Tryd.prog gl 100000 4 146 (mkA 9 7 kl gl)) (sumVC 146) = true := by kernel_rfl
theorem sumA_146 : BytesAt Tryd.prog gl 4 146 (sumN klN 146) := sum_bytes (hm := mixed) is_sum runA_146 (fun w ro hg => mkA_ok kl_lt is_press (fun {_ _ _ _ _ _ _ _ _ _ _} => press_calls mixed wayA_ok is_press kl_len kl_lt pressA) is_const const_ok w ro hg)
set_option maxRecDepth 1000000 in
theorem runA_147 : vcSame (runSum Tryd.prog gl 100000 4 147 (mkA 9 7 kl gl)) (sumVC 147) = true := by kernel_rfl
theorem sumA_147 : BytesAt Tryd.prog gl 4 147 (sumN klN 147) := sum_bytes (hm := mixed) is_sum runA_147 (fun w ro hg => mkA_ok kl_lt is_press (fun {_ _ _ _ _ _ _ _ _ _ _} => press_calls mixed wayA_ok is_press kl_len kl_lt pressA) is_const const_ok w ro hg)
set_option maxRecDepth 1000000 in
theorem runA_148 : vcSame (runSum Tryd.prog gl 100000 4 148 (mkA 9 7 kl gl)) (sumVC 148) = true := by kernel_rfl
theorem sumA_148 : BytesAt Tryd.prog gl 4 148 (sumN klN 148) := sum_bytes (hm := mixed) is_sum runA_148 (fun w ro hg => mkA_ok kl_lt is_press (fun {_ _ _ _ _ _ _ _ _ _ _} => press_calls mixed wayA_ok is_press kl_len kl_lt pressA) is_const const_ok w ro hg)
set_option maxRecDepth 1000000 in
theorem runA_149 : vcSame (runSum Tryd.prog gl 100000 4 149 (mkA 9 7 kl gl)) (sumVC 149) = true := by kernel_rfl
theorem sumA_149 : BytesAt Tryd.prog gl 4 149 (sumN klN 149) := sum_bytes (hm := mixed) is_sum runA_149 (fun w ro hg => mkA_ok kl_lt is_press (fun {_ _ _ _ _ _ _ _ _ _ _} => press_calls mixed wayA_ok is_press kl_len kl_lt pressA) is_const const_ok w ro hg)
set_option maxRecDepth 1000000 in
theorem runA_150 : vcSame (runSum Tryd.prog gl 100000 4 150 (mkA 9 7 kl gl)) (sumVC 150) = true := by kernel_rfl
theorem sumA_150 : BytesAt Tryd.prog gl 4 150 (sumN klN 150) := sum_bytes (hm := mixed) is_sum runA_150 (fun w ro hg => mkA_ok kl_lt is_press (fun {_ _ _ _ _ _ _ _ _ _ _} => press_calls mixed wayA_ok is_press kl_len kl_lt pressA) is_const const_ok w ro hg)
theorem allA_5 : BAll Tryd.prog gl 4 [126, 127, 128, 129, 130, 131, 132, 133, 134, 135, 136, 137, 138, 139, 140, 141, 142, 143, 144, 145, 146, 147, 148, 149, 150] := ball_cons sumA_126 (ball_cons sumA_127 (ball_cons sumA_128 (ball_cons sumA_129 (ball_cons sumA_130 (ball_cons sumA_131 (ball_cons sumA_132 (ball_cons sumA_133 (ball_cons sumA_134 (ball_cons sumA_135 (ball_cons sumA_136 (ball_cons sumA_137 (ball_cons sumA_138 (ball_cons sumA_139 (ball_cons sumA_140 (ball_cons sumA_141 (ball_cons sumA_142 (ball_cons sumA_143 (ball_cons sumA_144 (ball_cons sumA_145 (ball_cons sumA_146 (ball_cons sumA_147 (ball_cons sumA_148 (ball_cons sumA_149 (ball_cons sumA_150 (ball_nil)))))))))))))))))))))))))
end Go.Proofs.YtfacieofpleobadDoor.Closed
