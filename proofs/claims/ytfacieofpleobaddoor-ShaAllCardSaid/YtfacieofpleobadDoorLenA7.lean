import Derived.Test.YtfacieofpleobadDoorShaP
import Derived.ProofKit
/-! Sums of some lengths. -/
namespace Go.Proofs.YtfacieofpleobadDoor.Closed
open Go Go.Sy Go.Sy.Sha Go.RowKit
set_option maxRecDepth 1000000 in
theorem runA_176 : vcSame (runSum Tryd.prog gl 100000 4 176 (mkA 9 7 kl gl)) (sumVC 176) = true := by kernel_rfl
theorem sumA_176 : BytesAt Tryd.prog gl 4 176 (sumN klN 176) := sum_bytes (hm := mixed) is_sum runA_176 (fun w ro hg => mkA_ok kl_lt is_press (fun {_ _ _ _ _ _ _ _ _ _ _} => press_calls mixed wayA_ok is_press kl_len kl_lt pressA) is_const const_ok w ro hg)
set_option maxRecDepth 1000000 in
theorem runA_177 : vcSame (runSum Tryd.prog gl 100000 4 177 (mkA 9 7 kl gl)) (sumVC 177) = true := by kernel_rfl
theorem sumA_177 : BytesAt Tryd.prog gl 4 177 (sumN klN 177) := sum_bytes (hm := mixed) is_sum runA_177 (fun w ro hg => mkA_ok kl_lt is_press (fun {_ _ _ _ _ _ _ _ _ _ _} => press_calls mixed wayA_ok is_press kl_len kl_lt pressA) is_const const_ok w ro hg)
set_option maxRecDepth 1000000 in
theorem runA_178 : vcSame (runSum Tryd.prog gl 100000 4 178 (mkA 9 7 kl gl)) (sumVC 178) = true := by kernel_rfl
theorem sumA_178 : BytesAt Tryd.prog gl 4 178 (sumN klN 178) := sum_bytes (hm := mixed) is_sum runA_178 (fun w ro hg => mkA_ok kl_lt is_press (fun {_ _ _ _ _ _ _ _ _ _ _} => press_calls mixed wayA_ok is_press kl_len kl_lt pressA) is_const const_ok w ro hg)
set_option maxRecDepth 1000000 in
theorem runA_179 : vcSame (runSum Tryd.prog gl 100000 4 179 (mkA 9 7 kl gl)) (sumVC 179) = true := by kernel_rfl
theorem sumA_179 : BytesAt Tryd.prog gl 4 179 (sumN klN 179) := sum_bytes (hm := mixed) is_sum runA_179 (fun w ro hg => mkA_ok kl_lt is_press (fun {_ _ _ _ _ _ _ _ _ _ _} => press_calls mixed wayA_ok is_press kl_len kl_lt pressA) is_const const_ok w ro hg)
set_option maxRecDepth 1000000 in
theorem runA_180 : vcSame (runSum Tryd.prog gl 100000 4 180 (mkA 9 7 kl gl)) (sumVC 180) = true := by kernel_rfl
theorem sumA_180 : BytesAt Tryd.prog gl 4 180 (sumN klN 180) := sum_bytes (hm := mixed) is_sum runA_180 (fun w ro hg => mkA_ok kl_lt is_press (fun {_ _ _ _ _ _ _ _ _ _ _} => press_calls mixed wayA_ok is_press kl_len kl_lt pressA) is_const const_ok w ro hg)
set_option maxRecDepth 1000000 in
theorem runA_181 : vcSame (runSum Tryd.prog gl 100000 4 181 (mkA 9 7 kl gl)) (sumVC 181) = true := by kernel_rfl
theorem sumA_181 : BytesAt Tryd.prog gl 4 181 (sumN klN 181) := sum_bytes (hm := mixed) is_sum runA_181 (fun w ro hg => mkA_ok kl_lt is_press (fun {_ _ _ _ _ _ _ _ _ _ _} => press_calls mixed wayA_ok is_press kl_len kl_lt pressA) is_const const_ok w ro hg)
set_option maxRecDepth 1000000 in
theorem runA_182 : vcSame (runSum Tryd.prog gl 100000 4 182 (mkA 9 7 kl gl)) (sumVC 182) = true := by kernel_rfl
theorem sumA_182 : BytesAt Tryd.prog gl 4 182 (sumN klN 182) := sum_bytes (hm := mixed) is_sum runA_182 (fun w ro hg => mkA_ok kl_lt is_press (fun {_ _ _ _ _ _ _ _ _ _ _} => press_calls mixed wayA_ok is_press kl_len kl_lt pressA) is_const const_ok w ro hg)
set_option maxRecDepth 1000000 in
theorem runA_183 : vcSame (runSum Tryd.prog gl 100000 4 183 (mkA 9 7 kl gl)) (sumVC 183) = true := by kernel_rfl
theorem sumA_183 : BytesAt Tryd.prog gl 4 183 (sumN klN 183) := sum_bytes (hm := mixed) is_sum runA_183 (fun w ro hg => mkA_ok kl_lt is_press (fun {_ _ _ _ _ _ _ _ _ _ _} => press_calls mixed wayA_ok is_press kl_len kl_lt pressA) is_const const_ok w ro hg)
set_option maxRecDepth 1000000 in
theorem runA_184 : vcSame (runSum Tryd.prog gl 100000 4 184 (mkA 9 7 kl gl)) (sumVC 184) = true := by kernel_rfl
theorem sumA_184 : BytesAt Tryd.prog gl 4 184 (sumN klN 184) := sum_bytes (hm := mixed) is_sum runA_184 (fun w ro hg => mkA_ok kl_lt is_press (fun {_ _ _ _ _ _ _ _ _ _ _} => press_calls mixed wayA_ok is_press kl_len kl_lt pressA) is_const const_ok w ro hg)
set_option maxRecDepth 1000000 in
theorem runA_185 : vcSame (runSum Tryd.prog gl 100000 4 185 (mkA 9 7 kl gl)) (sumVC 185) = true := by kernel_rfl
theorem sumA_185 : BytesAt Tryd.prog gl 4 185 (sumN klN 185) := sum_bytes (hm := mixed) is_sum runA_185 (fun w ro hg => mkA_ok kl_lt is_press (fun {_ _ _ _ _ _ _ _ _ _ _} => press_calls mixed wayA_ok is_press kl_len kl_lt pressA) is_const const_ok w ro hg)
set_option maxRecDepth 1000000 in
theorem runA_186 : vcSame (runSum Tryd.prog gl 100000 4 186 (mkA 9 7 kl gl)) (sumVC 186) = true := by kernel_rfl
theorem sumA_186 : BytesAt Tryd.prog gl 4 186 (sumN klN 186) := sum_bytes (hm := mixed) is_sum runA_186 (fun w ro hg => mkA_ok kl_lt is_press (fun {_ _ _ _ _ _ _ _ _ _ _} => press_calls mixed wayA_ok is_press kl_len kl_lt pressA) is_const const_ok w ro hg)
set_option maxRecDepth 1000000 in
theorem runA_187 : vcSame (runSum Tryd.prog gl 100000 4 187 (mkA 9 7 kl gl)) (sumVC 187) = true := by kernel_rfl
theorem sumA_187 : BytesAt Tryd.prog gl 4 187 (sumN klN 187) := sum_bytes (hm := mixed) is_sum runA_187 (fun w ro hg => mkA_ok kl_lt is_press (fun {_ _ _ _ _ _ _ _ _ _ _} => press_calls mixed wayA_ok is_press kl_len kl_lt pressA) is_const const_ok w ro hg)
set_option maxRecDepth 1000000 in
theorem runA_188 : vcSame (runSum Tryd.prog gl 100000 4 188 (mkA 9 7 kl gl)) (sumVC 188) = true := by kernel_rfl
theorem sumA_188 : BytesAt Tryd.prog gl 4 188 (sumN klN 188) := sum_bytes (hm := mixed) is_sum runA_188 (fun w ro hg => mkA_ok kl_lt is_press (fun {_ _ _ _ _ _ _ _ _ _ _} => press_calls mixed wayA_ok is_press kl_len kl_lt pressA) is_const const_ok w ro hg)
set_option maxRecDepth 1000000 in
theorem runA_189 : vcSame (runSum Tryd.prog gl 100000 4 189 (mkA 9 7 kl gl)) (sumVC 189) = true := by kernel_rfl
theorem sumA_189 : BytesAt Tryd.prog gl 4 189 (sumN klN 189) := sum_bytes (hm := mixed) is_sum runA_189 (fun w ro hg => mkA_ok kl_lt is_press (fun {_ _ _ _ _ _ _ _ _ _ _} => press_calls mixed wayA_ok is_press kl_len kl_lt pressA) is_const const_ok w ro hg)
set_option maxRecDepth 1000000 in
theorem runA_190 : vcSame (runSum Tryd.prog gl 100000 4 190 (mkA 9 7 kl gl)) (sumVC 190) = true := by kernel_rfl
theorem sumA_190 : BytesAt Tryd.prog gl 4 190 (sumN klN 190) := sum_bytes (hm := mixed) is_sum runA_190 (fun w ro hg => mkA_ok kl_lt is_press (fun {_ _ _ _ _ _ _ _ _ _ _} => press_calls mixed wayA_ok is_press kl_len kl_lt pressA) is_const const_ok w ro hg)
set_option maxRecDepth 1000000 in
theorem runA_191 : vcSame (runSum Tryd.prog gl 100000 4 191 (mkA 9 7 kl gl)) (sumVC 191) = true := by kernel_rfl
theorem sumA_191 : BytesAt Tryd.prog gl 4 191 (sumN klN 191) := sum_bytes (hm := mixed) is_sum runA_191 (fun w ro hg => mkA_ok kl_lt is_press (fun {_ _ _ _ _ _ _ _ _ _ _} => press_calls mixed wayA_ok is_press kl_len kl_lt pressA) is_const const_ok w ro hg)
set_option maxRecDepth 1000000 in
theorem runA_192 : vcSame (runSum Tryd.prog gl 100000 4 192 (mkA 9 7 kl gl)) (sumVC 192) = true := by kernel_rfl
theorem sumA_192 : BytesAt Tryd.prog gl 4 192 (sumN klN 192) := sum_bytes (hm := mixed) is_sum runA_192 (fun w ro hg => mkA_ok kl_lt is_press (fun {_ _ _ _ _ _ _ _ _ _ _} => press_calls mixed wayA_ok is_press kl_len kl_lt pressA) is_const const_ok w ro hg)
set_option maxRecDepth 1000000 in
theorem runA_193 : vcSame (runSum Tryd.prog gl 100000 4 193 (mkA 9 7 kl gl)) (sumVC 193) = true := by kernel_rfl
theorem sumA_193 : BytesAt Tryd.prog gl 4 193 (sumN klN 193) := sum_bytes (hm := mixed) is_sum runA_193 (fun w ro hg => mkA_ok kl_lt is_press (fun {_ _ _ _ _ _ _ _ _ _ _} => press_calls mixed wayA_ok is_press kl_len kl_lt pressA) is_const const_ok w ro hg)
set_option maxRecDepth 1000000 in
theorem runA_194 : vcSame (runSum Tryd.prog gl 100000 4 194 (mkA 9 7 kl gl)) (sumVC 194) = true := by kernel_rfl
theorem sumA_194 : BytesAt Tryd.prog gl 4 194 (sumN klN 194) := sum_bytes (hm := mixed) is_sum runA_194 (fun w ro hg => mkA_ok kl_lt is_press (fun {_ _ _ _ _ _ _ _ _ _ _} => press_calls mixed wayA_ok is_press kl_len kl_lt pressA) is_const const_ok w ro hg)
set_option maxRecDepth 1000000 in
theorem runA_195 : vcSame (runSum Tryd.prog gl 100000 4 195 (mkA 9 7 kl gl)) (sumVC 195) = true := by kernel_rfl
theorem sumA_195 : BytesAt Tryd.prog gl 4 195 (sumN klN 195) := sum_bytes (hm := mixed) is_sum runA_195 (fun w ro hg => mkA_ok kl_lt is_press (fun {_ _ _ _ _ _ _ _ _ _ _} => press_calls mixed wayA_ok is_press kl_len kl_lt pressA) is_const const_ok w ro hg)
set_option maxRecDepth 1000000 in
theorem runA_196 : vcSame (runSum Tryd.prog gl 100000 4 196 (mkA 9 7 kl gl)) (sumVC 196) = true := by kernel_rfl
theorem sumA_196 : BytesAt Tryd.prog gl 4 196 (sumN klN 196) := sum_bytes (hm := mixed) is_sum runA_196 (fun w ro hg => mkA_ok kl_lt is_press (fun {_ _ _ _ _ _ _ _ _ _ _} => press_calls mixed wayA_ok is_press kl_len kl_lt pressA) is_const const_ok w ro hg)
set_option maxRecDepth 1000000 in
theorem runA_197 : vcSame (runSum Tryd.prog gl 100000 4 197 (mkA 9 7 kl gl)) (sumVC 197) = true := by kernel_rfl
theorem sumA_197 : BytesAt Tryd.prog gl 4 197 (sumN klN 197) := sum_bytes (hm := mixed) is_sum runA_197 (fun w ro hg => mkA_ok kl_lt is_press (fun {_ _ _ _ _ _ _ _ _ _ _} => press_calls mixed wayA_ok is_press kl_len kl_lt pressA) is_const const_ok w ro hg)
set_option maxRecDepth 1000000 in
theorem runA_198 : vcSame (runSum Tryd.prog gl 100000 4 198 (mkA 9 7 kl gl)) (sumVC 198) = true := by kernel_rfl
theorem sumA_198 : BytesAt Tryd.prog gl 4 198 (sumN klN 198) := sum_bytes (hm := mixed) is_sum runA_198 (fun w ro hg => mkA_ok kl_lt is_press (fun {_ _ _ _ _ _ _ _ _ _ _} => press_calls mixed wayA_ok is_press kl_len kl_lt pressA) is_const const_ok w ro hg)
set_option maxRecDepth 1000000 in
theorem runA_199 : vcSame (runSum Tryd.prog gl 100000 4 199 (mkA 9 7 kl gl)) (sumVC 199) = true := by kernel_rfl
theorem sumA_199 : BytesAt Tryd.prog gl 4 199 (sumN klN 199) := sum_bytes (hm := mixed) is_sum runA_199 (fun w ro hg => mkA_ok kl_lt is_press (fun {_ _ _ _ _ _ _ _ _ _ _} => press_calls mixed wayA_ok is_press kl_len kl_lt pressA) is_const const_ok w ro hg)
set_option maxRecDepth 1000000 in
theorem runA_200 : vcSame (runSum Tryd.prog gl 100000 4 200 (mkA 9 7 kl gl)) (sumVC 200) = true := by kernel_rfl
theorem sumA_200 : BytesAt Tryd.prog gl 4 200 (sumN klN 200) := sum_bytes (hm := mixed) is_sum runA_200 (fun w ro hg => mkA_ok kl_lt is_press (fun {_ _ _ _ _ _ _ _ _ _ _} => press_calls mixed wayA_ok is_press kl_len kl_lt pressA) is_const const_ok w ro hg)
theorem allA_7 : BAll Tryd.prog gl 4 [176, 177, 178, 179, 180, 181, 182, 183, 184, 185, 186, 187, 188, 189, 190, 191, 192, 193, 194, 195, 196, 197, 198, 199, 200] := ball_cons sumA_176 (ball_cons sumA_177 (ball_cons sumA_178 (ball_cons sumA_179 (ball_cons sumA_180 (ball_cons sumA_181 (ball_cons sumA_182 (ball_cons sumA_183 (ball_cons sumA_184 (ball_cons sumA_185 (ball_cons sumA_186 (ball_cons sumA_187 (ball_cons sumA_188 (ball_cons sumA_189 (ball_cons sumA_190 (ball_cons sumA_191 (ball_cons sumA_192 (ball_cons sumA_193 (ball_cons sumA_194 (ball_cons sumA_195 (ball_cons sumA_196 (ball_cons sumA_197 (ball_cons sumA_198 (ball_cons sumA_199 (ball_cons sumA_200 (ball_nil)))))))))))))))))))))))))
end Go.Proofs.YtfacieofpleobadDoor.Closed
