import Derived.Test.YtfacieofpleobadDoorShaP
import Derived.ProofKit
/-! Sums of some lengths. -/
namespace Go.Proofs.YtfacieofpleobadDoor.Closed
open Go Go.Sy Go.Sy.Sha Go.RowKit
set_option maxRecDepth 1000000 in
theorem runB_151 : vcSame (runSum Tryd.prog gl 100000 5 151 (mkB 10 gl)) (sumVC 151) = true := by kernel_rfl
theorem sumB_151 : BytesAt Tryd.prog gl 5 151 (sumN klN 151) := sum_bytes (hm := mixed) is_sumB runB_151 (fun w ro hg => mkB_ok is_pressB (fun {_ _ _ _ _ _} => pressB_calls mixed wayB_ok is_pressB kl_len kl_lt pressB) w ro hg)
set_option maxRecDepth 1000000 in
theorem runB_152 : vcSame (runSum Tryd.prog gl 100000 5 152 (mkB 10 gl)) (sumVC 152) = true := by kernel_rfl
theorem sumB_152 : BytesAt Tryd.prog gl 5 152 (sumN klN 152) := sum_bytes (hm := mixed) is_sumB runB_152 (fun w ro hg => mkB_ok is_pressB (fun {_ _ _ _ _ _} => pressB_calls mixed wayB_ok is_pressB kl_len kl_lt pressB) w ro hg)
set_option maxRecDepth 1000000 in
theorem runB_153 : vcSame (runSum Tryd.prog gl 100000 5 153 (mkB 10 gl)) (sumVC 153) = true := by kernel_rfl
theorem sumB_153 : BytesAt Tryd.prog gl 5 153 (sumN klN 153) := sum_bytes (hm := mixed) is_sumB runB_153 (fun w ro hg => mkB_ok is_pressB (fun {_ _ _ _ _ _} => pressB_calls mixed wayB_ok is_pressB kl_len kl_lt pressB) w ro hg)
set_option maxRecDepth 1000000 in
theorem runB_154 : vcSame (runSum Tryd.prog gl 100000 5 154 (mkB 10 gl)) (sumVC 154) = true := by kernel_rfl
theorem sumB_154 : BytesAt Tryd.prog gl 5 154 (sumN klN 154) := sum_bytes (hm := mixed) is_sumB runB_154 (fun w ro hg => mkB_ok is_pressB (fun {_ _ _ _ _ _} => pressB_calls mixed wayB_ok is_pressB kl_len kl_lt pressB) w ro hg)
set_option maxRecDepth 1000000 in
theorem runB_155 : vcSame (runSum Tryd.prog gl 100000 5 155 (mkB 10 gl)) (sumVC 155) = true := by kernel_rfl
theorem sumB_155 : BytesAt Tryd.prog gl 5 155 (sumN klN 155) := sum_bytes (hm := mixed) is_sumB runB_155 (fun w ro hg => mkB_ok is_pressB (fun {_ _ _ _ _ _} => pressB_calls mixed wayB_ok is_pressB kl_len kl_lt pressB) w ro hg)
set_option maxRecDepth 1000000 in
theorem runB_156 : vcSame (runSum Tryd.prog gl 100000 5 156 (mkB 10 gl)) (sumVC 156) = true := by kernel_rfl
theorem sumB_156 : BytesAt Tryd.prog gl 5 156 (sumN klN 156) := sum_bytes (hm := mixed) is_sumB runB_156 (fun w ro hg => mkB_ok is_pressB (fun {_ _ _ _ _ _} => pressB_calls mixed wayB_ok is_pressB kl_len kl_lt pressB) w ro hg)
set_option maxRecDepth 1000000 in
theorem runB_157 : vcSame (runSum Tryd.prog gl 100000 5 157 (mkB 10 gl)) (sumVC 157) = true := by kernel_rfl
theorem sumB_157 : BytesAt Tryd.prog gl 5 157 (sumN klN 157) := sum_bytes (hm := mixed) is_sumB runB_157 (fun w ro hg => mkB_ok is_pressB (fun {_ _ _ _ _ _} => pressB_calls mixed wayB_ok is_pressB kl_len kl_lt pressB) w ro hg)
set_option maxRecDepth 1000000 in
theorem runB_158 : vcSame (runSum Tryd.prog gl 100000 5 158 (mkB 10 gl)) (sumVC 158) = true := by kernel_rfl
theorem sumB_158 : BytesAt Tryd.prog gl 5 158 (sumN klN 158) := sum_bytes (hm := mixed) is_sumB runB_158 (fun w ro hg => mkB_ok is_pressB (fun {_ _ _ _ _ _} => pressB_calls mixed wayB_ok is_pressB kl_len kl_lt pressB) w ro hg)
set_option maxRecDepth 1000000 in
theorem runB_159 : vcSame (runSum Tryd.prog gl 100000 5 159 (mkB 10 gl)) (sumVC 159) = true := by kernel_rfl
theorem sumB_159 : BytesAt Tryd.prog gl 5 159 (sumN klN 159) := sum_bytes (hm := mixed) is_sumB runB_159 (fun w ro hg => mkB_ok is_pressB (fun {_ _ _ _ _ _} => pressB_calls mixed wayB_ok is_pressB kl_len kl_lt pressB) w ro hg)
set_option maxRecDepth 1000000 in
theorem runB_160 : vcSame (runSum Tryd.prog gl 100000 5 160 (mkB 10 gl)) (sumVC 160) = true := by kernel_rfl
theorem sumB_160 : BytesAt Tryd.prog gl 5 160 (sumN klN 160) := sum_bytes (hm := mixed) is_sumB runB_160 (fun w ro hg => mkB_ok is_pressB (fun {_ _ _ _ _ _} => pressB_calls mixed wayB_ok is_pressB kl_len kl_lt pressB) w ro hg)
set_option maxRecDepth 1000000 in
theorem runB_161 : vcSame (runSum Tryd.prog gl 100000 5 161 (mkB 10 gl)) (sumVC 161) = true := by kernel_rfl
theorem sumB_161 : BytesAt Tryd.prog gl 5 161 (sumN klN 161) := sum_bytes (hm := mixed) is_sumB runB_161 (fun w ro hg => mkB_ok is_pressB (fun {_ _ _ _ _ _} => pressB_calls mixed wayB_ok is_pressB kl_len kl_lt pressB) w ro hg)
set_option maxRecDepth 1000000 in
theorem runB_162 : vcSame (runSum Tryd.prog gl 100000 5 162 (mkB 10 gl)) (sumVC 162) = true := by kernel_rfl
theorem sumB_162 : BytesAt Tryd.prog gl 5 162 (sumN klN 162) := sum_bytes (hm := mixed) is_sumB runB_162 (fun w ro hg => mkB_ok is_pressB (fun {_ _ _ _ _ _} => pressB_calls mixed wayB_ok is_pressB kl_len kl_lt pressB) w ro hg)
set_option maxRecDepth 1000000 in
theorem runB_163 : vcSame (runSum Tryd.prog gl 100000 5 163 (mkB 10 gl)) (sumVC 163) = true := by kernel_rfl
theorem sumB_163 : BytesAt Tryd.prog gl 5 163 (sumN klN 163) := sum_bytes (hm := mixed) is_sumB runB_163 (fun w ro hg => mkB_ok is_pressB (fun {_ _ _ _ _ _} => pressB_calls mixed wayB_ok is_pressB kl_len kl_lt pressB) w ro hg)
set_option maxRecDepth 1000000 in
theorem runB_164 : vcSame (runSum Tryd.prog gl 100000 5 164 (mkB 10 gl)) (sumVC 164) = true := by kernel_rfl
theorem sumB_164 : BytesAt Tryd.prog gl 5 164 (sumN klN 164) := sum_bytes (hm := mixed) is_sumB runB_164 (fun w ro hg => mkB_ok is_pressB (fun {_ _ _ _ _ _} => pressB_calls mixed wayB_ok is_pressB kl_len kl_lt pressB) w ro hg)
set_option maxRecDepth 1000000 in
theorem runB_165 : vcSame (runSum Tryd.prog gl 100000 5 165 (mkB 10 gl)) (sumVC 165) = true := by kernel_rfl
theorem sumB_165 : BytesAt Tryd.prog gl 5 165 (sumN klN 165) := sum_bytes (hm := mixed) is_sumB runB_165 (fun w ro hg => mkB_ok is_pressB (fun {_ _ _ _ _ _} => pressB_calls mixed wayB_ok is_pressB kl_len kl_lt pressB) w ro hg)
set_option maxRecDepth 1000000 in
theorem runB_166 : vcSame (runSum Tryd.prog gl 100000 5 166 (mkB 10 gl)) (sumVC 166) = true := by kernel_rfl
theorem sumB_166 : BytesAt Tryd.prog gl 5 166 (sumN klN 166) := sum_bytes (hm := mixed) is_sumB runB_166 (fun w ro hg => mkB_ok is_pressB (fun {_ _ _ _ _ _} => pressB_calls mixed wayB_ok is_pressB kl_len kl_lt pressB) w ro hg)
set_option maxRecDepth 1000000 in
theorem runB_167 : vcSame (runSum Tryd.prog gl 100000 5 167 (mkB 10 gl)) (sumVC 167) = true := by kernel_rfl
theorem sumB_167 : BytesAt Tryd.prog gl 5 167 (sumN klN 167) := sum_bytes (hm := mixed) is_sumB runB_167 (fun w ro hg => mkB_ok is_pressB (fun {_ _ _ _ _ _} => pressB_calls mixed wayB_ok is_pressB kl_len kl_lt pressB) w ro hg)
set_option maxRecDepth 1000000 in
theorem runB_168 : vcSame (runSum Tryd.prog gl 100000 5 168 (mkB 10 gl)) (sumVC 168) = true := by kernel_rfl
theorem sumB_168 : BytesAt Tryd.prog gl 5 168 (sumN klN 168) := sum_bytes (hm := mixed) is_sumB runB_168 (fun w ro hg => mkB_ok is_pressB (fun {_ _ _ _ _ _} => pressB_calls mixed wayB_ok is_pressB kl_len kl_lt pressB) w ro hg)
set_option maxRecDepth 1000000 in
theorem runB_169 : vcSame (runSum Tryd.prog gl 100000 5 169 (mkB 10 gl)) (sumVC 169) = true := by kernel_rfl
theorem sumB_169 : BytesAt Tryd.prog gl 5 169 (sumN klN 169) := sum_bytes (hm := mixed) is_sumB runB_169 (fun w ro hg => mkB_ok is_pressB (fun {_ _ _ _ _ _} => pressB_calls mixed wayB_ok is_pressB kl_len kl_lt pressB) w ro hg)
set_option maxRecDepth 1000000 in
theorem runB_170 : vcSame (runSum Tryd.prog gl 100000 5 170 (mkB 10 gl)) (sumVC 170) = true := by kernel_rfl
theorem sumB_170 : BytesAt Tryd.prog gl 5 170 (sumN klN 170) := sum_bytes (hm := mixed) is_sumB runB_170 (fun w ro hg => mkB_ok is_pressB (fun {_ _ _ _ _ _} => pressB_calls mixed wayB_ok is_pressB kl_len kl_lt pressB) w ro hg)
set_option maxRecDepth 1000000 in
theorem runB_171 : vcSame (runSum Tryd.prog gl 100000 5 171 (mkB 10 gl)) (sumVC 171) = true := by kernel_rfl
theorem sumB_171 : BytesAt Tryd.prog gl 5 171 (sumN klN 171) := sum_bytes (hm := mixed) is_sumB runB_171 (fun w ro hg => mkB_ok is_pressB (fun {_ _ _ _ _ _} => pressB_calls mixed wayB_ok is_pressB kl_len kl_lt pressB) w ro hg)
set_option maxRecDepth 1000000 in
theorem runB_172 : vcSame (runSum Tryd.prog gl 100000 5 172 (mkB 10 gl)) (sumVC 172) = true := by kernel_rfl
theorem sumB_172 : BytesAt Tryd.prog gl 5 172 (sumN klN 172) := sum_bytes (hm := mixed) is_sumB runB_172 (fun w ro hg => mkB_ok is_pressB (fun {_ _ _ _ _ _} => pressB_calls mixed wayB_ok is_pressB kl_len kl_lt pressB) w ro hg)
set_option maxRecDepth 1000000 in
theorem runB_173 : vcSame (runSum Tryd.prog gl 100000 5 173 (mkB 10 gl)) (sumVC 173) = true := by kernel_rfl
theorem sumB_173 : BytesAt Tryd.prog gl 5 173 (sumN klN 173) := sum_bytes (hm := mixed) is_sumB runB_173 (fun w ro hg => mkB_ok is_pressB (fun {_ _ _ _ _ _} => pressB_calls mixed wayB_ok is_pressB kl_len kl_lt pressB) w ro hg)
set_option maxRecDepth 1000000 in
theorem runB_174 : vcSame (runSum Tryd.prog gl 100000 5 174 (mkB 10 gl)) (sumVC 174) = true := by kernel_rfl
theorem sumB_174 : BytesAt Tryd.prog gl 5 174 (sumN klN 174) := sum_bytes (hm := mixed) is_sumB runB_174 (fun w ro hg => mkB_ok is_pressB (fun {_ _ _ _ _ _} => pressB_calls mixed wayB_ok is_pressB kl_len kl_lt pressB) w ro hg)
set_option maxRecDepth 1000000 in
theorem runB_175 : vcSame (runSum Tryd.prog gl 100000 5 175 (mkB 10 gl)) (sumVC 175) = true := by kernel_rfl
theorem sumB_175 : BytesAt Tryd.prog gl 5 175 (sumN klN 175) := sum_bytes (hm := mixed) is_sumB runB_175 (fun w ro hg => mkB_ok is_pressB (fun {_ _ _ _ _ _} => pressB_calls mixed wayB_ok is_pressB kl_len kl_lt pressB) w ro hg)
theorem allB_6 : BAll Tryd.prog gl 5 [151, 152, 153, 154, 155, 156, 157, 158, 159, 160, 161, 162, 163, 164, 165, 166, 167, 168, 169, 170, 171, 172, 173, 174, 175] := ball_cons sumB_151 (ball_cons sumB_152 (ball_cons sumB_153 (ball_cons sumB_154 (ball_cons sumB_155 (ball_cons sumB_156 (ball_cons sumB_157 (ball_cons sumB_158 (ball_cons sumB_159 (ball_cons sumB_160 (ball_cons sumB_161 (ball_cons sumB_162 (ball_cons sumB_163 (ball_cons sumB_164 (ball_cons sumB_165 (ball_cons sumB_166 (ball_cons sumB_167 (ball_cons sumB_168 (ball_cons sumB_169 (ball_cons sumB_170 (ball_cons sumB_171 (ball_cons sumB_172 (ball_cons sumB_173 (ball_cons sumB_174 (ball_cons sumB_175 (ball_nil)))))))))))))))))))))))))
end Go.Proofs.YtfacieofpleobadDoor.Closed
