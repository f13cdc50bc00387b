import Derived.Test.YtfacieofpleobadDoorShaP
import Derived.ProofKit
/-! Sums of some lengths. -/
namespace Go.Proofs.YtfacieofpleobadDoor.Closed
open Go Go.Sy Go.Sy.Sha Go.RowKit
set_option maxRecDepth 1000000 in
theorem runA_151 : vcSame (runSum Tryd.prog gl 100000 4 151 (mkA 9 7 kl gl)) (sumVC 151) = true := by kernel_rfl
theorem sumA_151 : BytesAt Tryd.prog gl 4 151 (sumN klN 151) := sum_bytes (hm := mixed) is_sum runA_151 (fun w ro hg => mkA_ok kl_lt is_press (fun {_ _ _ _ _ _ _ _ _ _ _} => press_calls mixed wayA_ok is_press kl_len kl_lt pressA) is_const const_ok w ro hg)
set_option maxRecDepth 1000000 in
theorem runA_152 : vcSame (runSum Tryd.prog gl 100000 4 152 (mkA 9 7 kl gl)) (sumVC 152) = true := by kernel_rfl
theorem sumA_152 : BytesAt Tryd.prog gl 4 152 (sumN klN 152) := sum_bytes (hm := mixed) is_sum runA_152 (fun w ro hg => mkA_ok kl_lt is_press (fun {_ _ _ _ _ _ _ _ _ _ _} => press_calls mixed wayA_ok is_press kl_len kl_lt pressA) is_const const_ok w ro hg)
set_option maxRecDepth 1000000 in
theorem runA_153 : vcSame (runSum Tryd.prog gl 100000 4 153 (mkA 9 7 kl gl)) (sumVC 153) = true := by kernel_rfl
theorem sumA_153 : BytesAt Tryd.prog gl 4 153 (sumN klN 153) := sum_bytes (hm := mixed) is_sum runA_153 (fun w ro hg => mkA_ok kl_lt is_press (fun {_ _ _ _ _ _ _ _ _ _ _} => press_calls mixed wayA_ok is_press kl_len kl_lt pressA) is_const const_ok w ro hg)
set_option maxRecDepth 1000000 in
theorem runA_154 : vcSame (runSum Tryd.prog gl 100000 4 154 (mkA 9 7 kl gl)) (sumVC 154) = true := by kernel_rfl
theorem sumA_154 : BytesAt Tryd.prog gl 4 154 (sumN klN 154) := sum_bytes (hm := mixed) is_sum runA_154 (fun w ro hg => mkA_ok kl_lt is_press (fun {_ _ _ _ _ _ _ _ _ _ _} => press_calls mixed wayA_ok is_press kl_len kl_lt pressA) is_const const_ok w ro hg)
set_option maxRecDepth 1000000 in
theorem runA_155 : vcSame (runSum Tryd.prog gl 100000 4 155 (mkA 9 7 kl gl)) (sumVC 155) = true := by kernel_rfl
theorem sumA_155 : BytesAt Tryd.prog gl 4 155 (sumN klN 155) := sum_bytes (hm := mixed) is_sum runA_155 (fun w ro hg => mkA_ok kl_lt is_press (fun {_ _ _ _ _ _ _ _ _ _ _} => press_calls mixed wayA_ok is_press kl_len kl_lt pressA) is_const const_ok w ro hg)
set_option maxRecDepth 1000000 in
theorem runA_156 : vcSame (runSum Tryd.prog gl 100000 4 156 (mkA 9 7 kl gl)) (sumVC 156) = true := by kernel_rfl
theorem sumA_156 : BytesAt Tryd.prog gl 4 156 (sumN klN 156) := sum_bytes (hm := mixed) is_sum runA_156 (fun w ro hg => mkA_ok kl_lt is_press (fun {_ _ _ _ _ _ _ _ _ _ _} => press_calls mixed wayA_ok is_press kl_len kl_lt pressA) is_const const_ok w ro hg)
set_option maxRecDepth 1000000 in
theorem runA_157 : vcSame (runSum Tryd.prog gl 100000 4 157 (mkA 9 7 kl gl)) (sumVC 157) = true := by kernel_rfl
theorem sumA_157 : BytesAt Tryd.prog gl 4 157 (sumN klN 157) := sum_bytes (hm := mixed) is_sum runA_157 (fun w ro hg => mkA_ok kl_lt is_press (fun {_ _ _ _ _ _ _ _ _ _ _} => press_calls mixed wayA_ok is_press kl_len kl_lt pressA) is_const const_ok w ro hg)
set_option maxRecDepth 1000000 in
theorem runA_158 : vcSame (runSum Tryd.prog gl 100000 4 158 (mkA 9 7 kl gl)) (sumVC 158) = true := by kernel_rfl
theorem sumA_158 : BytesAt Tryd.prog gl 4 158 (sumN klN 158) := sum_bytes (hm := mixed) is_sum runA_158 (fun w ro hg => mkA_ok kl_lt is_press (fun {_ _ _ _ _ _ _ _ _ _ _} => press_calls mixed wayA_ok is_press kl_len kl_lt pressA) is_const const_ok w ro hg)
set_option maxRecDepth 1000000 in
theorem runA_159 : vcSame (runSum Tryd.prog gl 100000 4 159 (mkA 9 7 kl gl)) (sumVC 159) = true := by kernel_rfl
theorem sumA_159 : BytesAt Tryd.prog gl 4 159 (sumN klN 159) := sum_bytes (hm := mixed) is_sum runA_159 (fun w ro hg => mkA_ok kl_lt is_press (fun {_ _ _ _ _ _ _ _ _ _ _} => press_calls mixed wayA_ok is_press kl_len kl_lt pressA) is_const const_ok w ro hg)
set_option maxRecDepth 1000000 in
theorem runA_160 : vcSame (runSum Tryd.prog gl 100000 4 160 (mkA 9 7 kl gl)) (sumVC 160) = true := by kernel_rfl
theorem sumA_160 : BytesAt Tryd.prog gl 4 160 (sumN klN 160) := sum_bytes (hm := mixed) is_sum runA_160 (fun w ro hg => mkA_ok kl_lt is_press (fun {_ _ _ _ _ _ _ _ _ _ _} => press_calls mixed wayA_ok is_press kl_len kl_lt pressA) is_const const_ok w ro hg)
set_option maxRecDepth 1000000 in
theorem runA_161 : vcSame (runSum Tryd.prog gl 100000 4 161 (mkA 9 7 kl gl)) (sumVC 161) = true := by kernel_rfl
theorem sumA_161 : BytesAt Tryd.prog gl 4 161 (sumN klN 161) := sum_bytes (hm := mixed) is_sum runA_161 (fun w ro hg => mkA_ok kl_lt is_press (fun {_ _ _ _ _ _ _ _ _ _ _} => press_calls mixed wayA_ok is_press kl_len kl_lt pressA) is_const const_ok w ro hg)
set_option maxRecDepth 1000000 in
theorem runA_162 : vcSame (runSum Tryd.prog gl 100000 4 162 (mkA 9 7 kl gl)) (sumVC 162) = true := by kernel_rfl
theorem sumA_162 : BytesAt Tryd.prog gl 4 162 (sumN klN 162) := sum_bytes (hm := mixed) is_sum runA_162 (fun w ro hg => mkA_ok kl_lt is_press (fun {_ _ _ _ _ _ _ _ _ _ _} => press_calls mixed wayA_ok is_press kl_len kl_lt pressA) is_const const_ok w ro hg)
set_option maxRecDepth 1000000 in
theorem runA_163 : vcSame (runSum Tryd.prog gl 100000 4 163 (mkA 9 7 kl gl)) (sumVC 163) = true := by kernel_rfl
theorem sumA_163 : BytesAt Tryd.prog gl 4 163 (sumN klN 163) := sum_bytes (hm := mixed) is_sum runA_163 (fun w ro hg => mkA_ok kl_lt is_press (fun {_ _ _ _ _ _ _ _ _ _ _} => press_calls mixed wayA_ok is_press kl_len kl_lt pressA) is_const const_ok w ro hg)
set_option maxRecDepth 1000000 in
theorem runA_164 : vcSame (runSum Tryd.prog gl 100000 4 164 (mkA 9 7 kl gl)) (sumVC 164) = true := by kernel_rfl
theorem sumA_164 : BytesAt Tryd.prog gl 4 164 (sumN klN 164) := sum_bytes (hm := mixed) is_sum runA_164 (fun w ro hg => mkA_ok kl_lt is_press (fun {_ _ _ _ _ _ _ _ _ _ _} => press_calls mixed wayA_ok is_press kl_len kl_lt pressA) is_const const_ok w ro hg)
set_option maxRecDepth 1000000 in
theorem runA_165 : vcSame (runSum Tryd.prog gl 100000 4 165 (mkA 9 7 kl gl)) (sumVC 165) = true := by kernel_rfl
theorem sumA_165 : BytesAt Tryd.prog gl 4 165 (sumN klN 165) := sum_bytes (hm := mixed) is_sum runA_165 (fun w ro hg => mkA_ok kl_lt is_press (fun {_ _ _ _ _ _ _ _ _ _ _} => press_calls mixed wayA_ok is_press kl_len kl_lt pressA) is_const const_ok w ro hg)
set_option maxRecDepth 1000000 in
theorem runA_166 : vcSame (runSum Tryd.prog gl 100000 4 166 (mkA 9 7 kl gl)) (sumVC 166) = true := by kernel_rfl
theorem sumA_166 : BytesAt Tryd.prog gl 4 166 (sumN klN 166) := sum_bytes (hm := mixed) is_sum runA_166 (fun w ro hg => mkA_ok kl_lt is_press (fun {_ _ _ _ _ _ _ _ _ _ _} => press_calls mixed wayA_ok is_press kl_len kl_lt pressA) is_const const_ok w ro hg)
set_option maxRecDepth 1000000 in
theorem runA_167 : vcSame (runSum Tryd.prog gl 100000 4 167 (mkA 9 7 kl gl)) (sumVC 167) = true := by kernel_rfl
theorem sumA_167 : BytesAt Tryd.prog gl 4 167 (sumN klN 167) := sum_bytes (hm := mixed) is_sum runA_167 (fun w ro hg => mkA_ok kl_lt is_press (fun {_ _ _ _ _ _ _ _ _ _ _} => press_calls mixed wayA_ok is_press kl_len kl_lt pressA) is_const const_ok w ro hg)
set_option maxRecDepth 1000000 in
theorem runA_168 : vcSame (runSum Tryd.prog gl 100000 4 168 (mkA 9 7 kl gl)) (sumVC 168) = true := by kernel_rfl
theorem sumA_168 : BytesAt Tryd.prog gl 4 168 (sumN klN 168) := sum_bytes (hm := mixed) is_sum runA_168 (fun w ro hg => mkA_ok kl_lt is_press (fun {_ _ _ _ _ _ _ _ _ _ _} => press_calls mixed wayA_ok is_press kl_len kl_lt pressA) is_const const_ok w ro hg)
set_option maxRecDepth 1000000 in
theorem runA_169 : vcSame (runSum Tryd.prog gl 100000 4 169 (mkA 9 7 kl gl)) (sumVC 169) = true := by kernel_rfl
theorem sumA_169 : BytesAt Tryd.prog gl 4 169 (sumN klN 169) := sum_bytes (hm := mixed) is_sum runA_169 (fun w ro hg => mkA_ok kl_lt is_press (fun {_ _ _ _ _ _ _ _ _ _ _} => press_calls mixed wayA_ok is_press kl_len kl_lt pressA) is_const const_ok w ro hg)
set_option maxRecDepth 1000000 in
theorem runA_170 : vcSame (runSum Tryd.prog gl 100000 4 170 (mkA 9 7 kl gl)) (sumVC 170) = true := by kernel_rfl
theorem sumA_170 : BytesAt Tryd.prog gl 4 170 (sumN klN 170) := sum_bytes (hm := mixed) is_sum runA_170 (fun w ro hg => mkA_ok kl_lt is_press (fun {_ _ _ _ _ _ _ _ _ _ _} => press_calls mixed wayA_ok is_press kl_len kl_lt pressA) is_const const_ok w ro hg)
set_option maxRecDepth 1000000 in
theorem runA_171 : vcSame (runSum Tryd.prog gl 100000 4 171 (mkA 9 7 kl gl)) (sumVC 171) = true := by kernel_rfl
theorem sumA_171 : BytesAt Tryd.prog gl 4 171 (sumN klN 171) := sum_bytes (hm := mixed) is_sum runA_171 (fun w ro hg => mkA_ok kl_lt is_press (fun {_ _ _ _ _ _ _ _ _ _ _} => press_calls mixed wayA_ok is_press kl_len kl_lt pressA) is_const const_ok w ro hg)
set_option maxRecDepth 1000000 in
theorem runA_172 : vcSame (runSum Tryd.prog gl 100000 4 172 (mkA 9 7 kl gl)) (sumVC 172) = true := by kernel_rfl
theorem sumA_172 : BytesAt Tryd.prog gl 4 172 (sumN klN 172) := sum_bytes (hm := mixed) is_sum runA_172 (fun w ro hg => mkA_ok kl_lt is_press (fun {_ _ _ _ _ _ _ _ _ _ _} => press_calls mixed wayA_ok is_press kl_len kl_lt pressA) is_const const_ok w ro hg)
set_option maxRecDepth 1000000 in
theorem runA_173 : vcSame (runSum Tryd.prog gl 100000 4 173 (mkA 9 7 kl gl)) (sumVC 173) = true := by kernel_rfl
theorem sumA_173 : BytesAt Tryd.prog gl 4 173 (sumN klN 173) := sum_bytes (hm := mixed) is_sum runA_173 (fun w ro hg => mkA_ok kl_lt is_press (fun {_ _ _ _ _ _ _ _ _ _ _} => press_calls mixed wayA_ok is_press kl_len kl_lt pressA) is_const const_ok w ro hg)
set_option maxRecDepth 1000000 in
theorem runA_174 : vcSame (runSum Tryd.prog gl 100000 4 174 (mkA 9 7 kl gl)) (sumVC 174) = true := by kernel_rfl
theorem sumA_174 : BytesAt Tryd.prog gl 4 174 (sumN klN 174) := sum_bytes (hm := mixed) is_sum runA_174 (fun w ro hg => mkA_ok kl_lt is_press (fun {_ _ _ _ _ _ _ _ _ _ _} => press_calls mixed wayA_ok is_press kl_len kl_lt pressA) is_const const_ok w ro hg)
set_option maxRecDepth 1000000 in
theorem runA_175 : vcSame (runSum Tryd.prog gl 100000 4 175 (mkA 9 7 kl gl)) (sumVC 175) = true := by kernel_rfl
theorem sumA_175 : BytesAt Tryd.prog gl 4 175 (sumN klN 175) := sum_bytes (hm := mixed) is_sum runA_175 (fun w ro hg => mkA_ok kl_lt is_press (fun {_ _ _ _ _ _ _ _ _ _ _} => press_calls mixed wayA_ok is_press kl_len kl_lt pressA) is_const const_ok w ro hg)
theorem allA_6 : BAll Tryd.prog gl 4 [151, 152, 153, 154, 155, 156, 157, 158, 159, 160, 161, 162, 163, 164, 165, 166, 167, 168, 169, 170, 171, 172, 173, 174, 175] := ball_cons sumA_151 (ball_cons sumA_152 (ball_cons sumA_153 (ball_cons sumA_154 (ball_cons sumA_155 (ball_cons sumA_156 (ball_cons sumA_157 (ball_cons sumA_158 (ball_cons sumA_159 (ball_cons sumA_160 (ball_cons sumA_161 (ball_cons sumA_162 (ball_cons sumA_163 (ball_cons sumA_164 (ball_cons sumA_165 (ball_cons sumA_166 (ball_cons sumA_167 (ball_cons sumA_168 (ball_cons sumA_169 (ball_cons sumA_170 (ball_cons sumA_171 (ball_cons sumA_172 (ball_cons sumA_173 (ball_cons sumA_174 (ball_cons sumA_175 (ball_nil)))))))))))))))))))))))))
end Go.Proofs.YtfacieofpleobadDoor.Closed
