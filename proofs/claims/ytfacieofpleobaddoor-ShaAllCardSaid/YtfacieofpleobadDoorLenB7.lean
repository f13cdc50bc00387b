import Derived.Test.YtfacieofpleobadDoorShaP
import Derived.ProofKit
/-! Sums of some lengths. -/
namespace Go.Proofs.YtfacieofpleobadDoor.Closed
open Go Go.Sy Go.Sy.Sha Go.RowKit
set_option maxRecDepth 1000000 in
theorem runB_176 : vcSame (runSum Tryd.prog gl 100000 5 176 (mkB 10 gl)) (sumVC 176) = true := by kernel_rfl
theorem sumB_176 : BytesAt Tryd.prog gl 5 176 (sumN klN 176) := sum_bytes (hm := mixed) is_sumB runB_176 (fun w ro hg => mkB_ok is_pressB (fun {_ _ _ _ _ _} => pressB_calls mixed wayB_ok is_pressB kl_len kl_lt pressB) w ro hg)
set_option maxRecDepth 1000000 in
theorem runB_177 : vcSame (runSum Tryd.prog gl 100000 5 177 (mkB 10 gl)) (sumVC 177) = true := by kernel_rfl
theorem sumB_177 : BytesAt Tryd.prog gl 5 177 (sumN klN 177) := sum_bytes (hm := mixed) is_sumB runB_177 (fun w ro hg => mkB_ok is_pressB (fun {_ _ _ _ _ _} => pressB_calls mixed wayB_ok is_pressB kl_len kl_lt pressB) w ro hg)
set_option maxRecDepth 1000000 in
theorem runB_178 : vcSame (runSum Tryd.prog gl 100000 5 178 (mkB 10 gl)) (sumVC 178) = true := by kernel_rfl
theorem sumB_178 : BytesAt Tryd.prog gl 5 178 (sumN klN 178) := sum_bytes (hm := mixed) is_sumB runB_178 (fun w ro hg => mkB_ok is_pressB (fun {_ _ _ _ _ _} => pressB_calls mixed wayB_ok is_pressB kl_len kl_lt pressB) w ro hg)
set_option maxRecDepth 1000000 in
theorem runB_179 : vcSame (runSum Tryd.prog gl 100000 5 179 (mkB 10 gl)) (sumVC 179) = true := by kernel_rfl
theorem sumB_179 : BytesAt Tryd.prog gl 5 179 (sumN klN 179) := sum_bytes (hm := mixed) is_sumB runB_179 (fun w ro hg => mkB_ok is_pressB (fun {_ _ _ _ _ _} => pressB_calls mixed wayB_ok is_pressB kl_len kl_lt pressB) w ro hg)
set_option maxRecDepth 1000000 in
theorem runB_180 : vcSame (runSum Tryd.prog gl 100000 5 180 (mkB 10 gl)) (sumVC 180) = true := by kernel_rfl
theorem sumB_180 : BytesAt Tryd.prog gl 5 180 (sumN klN 180) := sum_bytes (hm := mixed) is_sumB runB_180 (fun w ro hg => mkB_ok is_pressB (fun {_ _ _ _ _ _} => pressB_calls mixed wayB_ok is_pressB kl_len kl_lt pressB) w ro hg)
set_option maxRecDepth 1000000 in
theorem runB_181 : vcSame (runSum Tryd.prog gl 100000 5 181 (mkB 10 gl)) (sumVC 181) = true := by kernel_rfl
theorem sumB_181 : BytesAt Tryd.prog gl 5 181 (sumN klN 181) := sum_bytes (hm := mixed) is_sumB runB_181 (fun w ro hg => mkB_ok is_pressB (fun {_ _ _ _ _ _} => pressB_calls mixed wayB_ok is_pressB kl_len kl_lt pressB) w ro hg)
set_option maxRecDepth 1000000 in
theorem runB_182 : vcSame (runSum Tryd.prog gl 100000 5 182 (mkB 10 gl)) (sumVC 182) = true := by kernel_rfl
theorem sumB_182 : BytesAt Tryd.prog gl 5 182 (sumN klN 182) := sum_bytes (hm := mixed) is_sumB runB_182 (fun w ro hg => mkB_ok is_pressB (fun {_ _ _ _ _ _} => pressB_calls mixed wayB_ok is_pressB kl_len kl_lt pressB) w ro hg)
set_option maxRecDepth 1000000 in
theorem runB_183 : vcSame (runSum Tryd.prog gl 100000 5 183 (mkB 10 gl)) (sumVC 183) = true := by kernel_rfl
theorem sumB_183 : BytesAt Tryd.prog gl 5 183 (sumN klN 183) := sum_bytes (hm := mixed) is_sumB runB_183 (fun w ro hg => mkB_ok is_pressB (fun {_ _ _ _ _ _} => pressB_calls mixed wayB_ok is_pressB kl_len kl_lt pressB) w ro hg)
set_option maxRecDepth 1000000 in
theorem runB_184 : vcSame (runSum Tryd.prog gl 100000 5 184 (mkB 10 gl)) (sumVC 184) = true := by kernel_rfl
theorem sumB_184 : BytesAt Tryd.prog gl 5 184 (sumN klN 184) := sum_bytes (hm := mixed) is_sumB runB_184 (fun w ro hg => mkB_ok is_pressB (fun {_ _ _ _ _ _} => pressB_calls mixed wayB_ok is_pressB kl_len kl_lt pressB) w ro hg)
set_option maxRecDepth 1000000 in
theorem runB_185 : vcSame (runSum Tryd.prog gl 100000 5 185 (mkB 10 gl)) (sumVC 185) = true := by kernel_rfl
theorem sumB_185 : BytesAt Tryd.prog gl 5 185 (sumN klN 185) := sum_bytes (hm := mixed) is_sumB runB_185 (fun w ro hg => mkB_ok is_pressB (fun {_ _ _ _ _ _} => pressB_calls mixed wayB_ok is_pressB kl_len kl_lt pressB) w ro hg)
set_option maxRecDepth 1000000 in
theorem runB_186 : vcSame (runSum Tryd.prog gl 100000 5 186 (mkB 10 gl)) (sumVC 186) = true := by kernel_rfl
theorem sumB_186 : BytesAt Tryd.prog gl 5 186 (sumN klN 186) := sum_bytes (hm := mixed) is_sumB runB_186 (fun w ro hg => mkB_ok is_pressB (fun {_ _ _ _ _ _} => pressB_calls mixed wayB_ok is_pressB kl_len kl_lt pressB) w ro hg)
set_option maxRecDepth 1000000 in
theorem runB_187 : vcSame (runSum Tryd.prog gl 100000 5 187 (mkB 10 gl)) (sumVC 187) = true := by kernel_rfl
theorem sumB_187 : BytesAt Tryd.prog gl 5 187 (sumN klN 187) := sum_bytes (hm := mixed) is_sumB runB_187 (fun w ro hg => mkB_ok is_pressB (fun {_ _ _ _ _ _} => pressB_calls mixed wayB_ok is_pressB kl_len kl_lt pressB) w ro hg)
set_option maxRecDepth 1000000 in
theorem runB_188 : vcSame (runSum Tryd.prog gl 100000 5 188 (mkB 10 gl)) (sumVC 188) = true := by kernel_rfl
theorem sumB_188 : BytesAt Tryd.prog gl 5 188 (sumN klN 188) := sum_bytes (hm := mixed) is_sumB runB_188 (fun w ro hg => mkB_ok is_pressB (fun {_ _ _ _ _ _} => pressB_calls mixed wayB_ok is_pressB kl_len kl_lt pressB) w ro hg)
set_option maxRecDepth 1000000 in
theorem runB_189 : vcSame (runSum Tryd.prog gl 100000 5 189 (mkB 10 gl)) (sumVC 189) = true := by kernel_rfl
theorem sumB_189 : BytesAt Tryd.prog gl 5 189 (sumN klN 189) := sum_bytes (hm := mixed) is_sumB runB_189 (fun w ro hg => mkB_ok is_pressB (fun {_ _ _ _ _ _} => pressB_calls mixed wayB_ok is_pressB kl_len kl_lt pressB) w ro hg)
set_option maxRecDepth 1000000 in
theorem runB_190 : vcSame (runSum Tryd.prog gl 100000 5 190 (mkB 10 gl)) (sumVC 190) = true := by kernel_rfl
theorem sumB_190 : BytesAt Tryd.prog gl 5 190 (sumN klN 190) := sum_bytes (hm := mixed) is_sumB runB_190 (fun w ro hg => mkB_ok is_pressB (fun {_ _ _ _ _ _} => pressB_calls mixed wayB_ok is_pressB kl_len kl_lt pressB) w ro hg)
set_option maxRecDepth 1000000 in
theorem runB_191 : vcSame (runSum Tryd.prog gl 100000 5 191 (mkB 10 gl)) (sumVC 191) = true := by kernel_rfl
theorem sumB_191 : BytesAt Tryd.prog gl 5 191 (sumN klN 191) := sum_bytes (hm := mixed) is_sumB runB_191 (fun w ro hg => mkB_ok is_pressB (fun {_ _ _ _ _ _} => pressB_calls mixed wayB_ok is_pressB kl_len kl_lt pressB) w ro hg)
set_option maxRecDepth 1000000 in
theorem runB_192 : vcSame (runSum Tryd.prog gl 100000 5 192 (mkB 10 gl)) (sumVC 192) = true := by kernel_rfl
theorem sumB_192 : BytesAt Tryd.prog gl 5 192 (sumN klN 192) := sum_bytes (hm := mixed) is_sumB runB_192 (fun w ro hg => mkB_ok is_pressB (fun {_ _ _ _ _ _} => pressB_calls mixed wayB_ok is_pressB kl_len kl_lt pressB) w ro hg)
set_option maxRecDepth 1000000 in
theorem runB_193 : vcSame (runSum Tryd.prog gl 100000 5 193 (mkB 10 gl)) (sumVC 193) = true := by kernel_rfl
theorem sumB_193 : BytesAt Tryd.prog gl 5 193 (sumN klN 193) := sum_bytes (hm := mixed) is_sumB runB_193 (fun w ro hg => mkB_ok is_pressB (fun {_ _ _ _ _ _} => pressB_calls mixed wayB_ok is_pressB kl_len kl_lt pressB) w ro hg)
set_option maxRecDepth 1000000 in
theorem runB_194 : vcSame (runSum Tryd.prog gl 100000 5 194 (mkB 10 gl)) (sumVC 194) = true := by kernel_rfl
theorem sumB_194 : BytesAt Tryd.prog gl 5 194 (sumN klN 194) := sum_bytes (hm := mixed) is_sumB runB_194 (fun w ro hg => mkB_ok is_pressB (fun {_ _ _ _ _ _} => pressB_calls mixed wayB_ok is_pressB kl_len kl_lt pressB) w ro hg)
set_option maxRecDepth 1000000 in
theorem runB_195 : vcSame (runSum Tryd.prog gl 100000 5 195 (mkB 10 gl)) (sumVC 195) = true := by kernel_rfl
theorem sumB_195 : BytesAt Tryd.prog gl 5 195 (sumN klN 195) := sum_bytes (hm := mixed) is_sumB runB_195 (fun w ro hg => mkB_ok is_pressB (fun {_ _ _ _ _ _} => pressB_calls mixed wayB_ok is_pressB kl_len kl_lt pressB) w ro hg)
set_option maxRecDepth 1000000 in
theorem runB_196 : vcSame (runSum Tryd.prog gl 100000 5 196 (mkB 10 gl)) (sumVC 196) = true := by kernel_rfl
theorem sumB_196 : BytesAt Tryd.prog gl 5 196 (sumN klN 196) := sum_bytes (hm := mixed) is_sumB runB_196 (fun w ro hg => mkB_ok is_pressB (fun {_ _ _ _ _ _} => pressB_calls mixed wayB_ok is_pressB kl_len kl_lt pressB) w ro hg)
set_option maxRecDepth 1000000 in
theorem runB_197 : vcSame (runSum Tryd.prog gl 100000 5 197 (mkB 10 gl)) (sumVC 197) = true := by kernel_rfl
theorem sumB_197 : BytesAt Tryd.prog gl 5 197 (sumN klN 197) := sum_bytes (hm := mixed) is_sumB runB_197 (fun w ro hg => mkB_ok is_pressB (fun {_ _ _ _ _ _} => pressB_calls mixed wayB_ok is_pressB kl_len kl_lt pressB) w ro hg)
set_option maxRecDepth 1000000 in
theorem runB_198 : vcSame (runSum Tryd.prog gl 100000 5 198 (mkB 10 gl)) (sumVC 198) = true := by kernel_rfl
theorem sumB_198 : BytesAt Tryd.prog gl 5 198 (sumN klN 198) := sum_bytes (hm := mixed) is_sumB runB_198 (fun w ro hg => mkB_ok is_pressB (fun {_ _ _ _ _ _} => pressB_calls mixed wayB_ok is_pressB kl_len kl_lt pressB) w ro hg)
set_option maxRecDepth 1000000 in
theorem runB_199 : vcSame (runSum Tryd.prog gl 100000 5 199 (mkB 10 gl)) (sumVC 199) = true := by kernel_rfl
theorem sumB_199 : BytesAt Tryd.prog gl 5 199 (sumN klN 199) := sum_bytes (hm := mixed) is_sumB runB_199 (fun w ro hg => mkB_ok is_pressB (fun {_ _ _ _ _ _} => pressB_calls mixed wayB_ok is_pressB kl_len kl_lt pressB) w ro hg)
set_option maxRecDepth 1000000 in
theorem runB_200 : vcSame (runSum Tryd.prog gl 100000 5 200 (mkB 10 gl)) (sumVC 200) = true := by kernel_rfl
theorem sumB_200 : BytesAt Tryd.prog gl 5 200 (sumN klN 200) := sum_bytes (hm := mixed) is_sumB runB_200 (fun w ro hg => mkB_ok is_pressB (fun {_ _ _ _ _ _} => pressB_calls mixed wayB_ok is_pressB kl_len kl_lt pressB) w ro hg)
theorem allB_7 : BAll Tryd.prog gl 5 [176, 177, 178, 179, 180, 181, 182, 183, 184, 185, 186, 187, 188, 189, 190, 191, 192, 193, 194, 195, 196, 197, 198, 199, 200] := ball_cons sumB_176 (ball_cons sumB_177 (ball_cons sumB_178 (ball_cons sumB_179 (ball_cons sumB_180 (ball_cons sumB_181 (ball_cons sumB_182 (ball_cons sumB_183 (ball_cons sumB_184 (ball_cons sumB_185 (ball_cons sumB_186 (ball_cons sumB_187 (ball_cons sumB_188 (ball_cons sumB_189 (ball_cons sumB_190 (ball_cons sumB_191 (ball_cons sumB_192 (ball_cons sumB_193 (ball_cons sumB_194 (ball_cons sumB_195 (ball_cons sumB_196 (ball_cons sumB_197 (ball_cons sumB_198 (ball_cons sumB_199 (ball_cons sumB_200 (ball_nil)))))))))))))))))))))))))
end Go.Proofs.YtfacieofpleobadDoor.Closed
