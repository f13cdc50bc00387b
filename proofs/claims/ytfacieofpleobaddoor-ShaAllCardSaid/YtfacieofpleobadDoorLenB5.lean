import Derived.Test.YtfacieofpleobadDoorShaP
import Derived.ProofKit
/-! Sums of some lengths. -/
namespace Go.Proofs.YtfacieofpleobadDoor.Closed
open Go Go.Sy Go.Sy.Sha Go.RowKit
set_option maxRecDepth 1000000 in
theorem runB_126 : vcSame (runSum Tryd.prog gl 100000 5 126 (mkB 10 gl)) (sumVC 126) = true := by kernel_rfl
theorem sumB_126 : BytesAt Tryd.prog gl 5 126 (sumN klN 126) := sum_bytes (hm := mixed) is_sumB runB_126 (fun w ro hg => mkB_ok is_pressB (fun {_ _ _ _ _ _} => pressB_calls mixed wayB_ok is_pressB kl_len kl_lt pressB) w ro hg)
set_option maxRecDepth 1000000 in
theorem runB_127 : vcSame (runSum Tryd.prog gl 100000 5 127 (mkB 10 gl)) (sumVC 127) = true := by kernel_rfl
theorem sumB_127 : BytesAt Tryd.prog gl 5 127 (sumN klN 127) := sum_bytes (hm := mixed) is_sumB runB_127 (fun w ro hg => mkB_ok is_pressB (fun {_ _ _ _ _ _} => pressB_calls mixed wayB_ok is_pressB kl_len kl_lt pressB) w ro hg)
set_option maxRecDepth 1000000 in
theorem runB_128 : vcSame (runSum Tryd.prog gl 100000 5 128 (mkB 10 gl)) (sumVC 128) = true := by kernel_rfl
theorem sumB_128 : BytesAt Tryd.prog gl 5 128 (sumN klN 128) := sum_bytes (hm := mixed) is_sumB runB_128 (fun w ro hg => mkB_ok is_pressB (fun {_ _ _ _ _ _} => pressB_calls mixed wayB_ok is_pressB kl_len kl_lt pressB) w ro hg)
set_option maxRecDepth 1000000 in
theorem runB_129 : vcSame (runSum Tryd.prog gl 100000 5 129 (mkB 10 gl)) (sumVC 129) = true := by kernel_rfl
theorem sumB_129 : BytesAt Tryd.prog gl 5 129 (sumN klN 129) := sum_bytes (hm := mixed) is_sumB runB_129 (fun w ro hg => mkB_ok is_pressB (fun {_ _ _ _ _ _} => pressB_calls mixed wayB_ok is_pressB kl_len kl_lt pressB) w ro hg)
set_option maxRecDepth 1000000 in
theorem runB_130 : vcSame (runSum Tryd.prog gl 100000 5 130 (mkB 10 gl)) (sumVC 130) = true := by kernel_rfl
theorem sumB_130 : BytesAt Tryd.prog gl 5 130 (sumN klN 130) := sum_bytes (hm := mixed) is_sumB runB_130 (fun w ro hg => mkB_ok is_pressB (fun {_ _ _ _ _ _} => pressB_calls mixed wayB_ok is_pressB kl_len kl_lt pressB) w ro hg)
set_option maxRecDepth 1000000 in
theorem runB_131 : vcSame (runSum Tryd.prog gl 100000 5 131 (mkB 10 gl)) (sumVC 131) = true := by kernel_rfl
theorem sumB_131 : BytesAt Tryd.prog gl 5 131 (sumN klN 131) := sum_bytes (hm := mixed) is_sumB runB_131 (fun w ro hg => mkB_ok is_pressB (fun {_ _ _ _ _ _} => pressB_calls mixed wayB_ok is_pressB kl_len kl_lt pressB) w ro hg)
set_option maxRecDepth 1000000 in
theorem runB_132 : vcSame (runSum Tryd.prog gl 100000 5 132 (mkB 10 gl)) (sumVC 132) = true := by kernel_rfl
theorem sumB_132 : BytesAt Tryd.prog gl 5 132 (sumN klN 132) := sum_bytes (hm := mixed) is_sumB runB_132 (fun w ro hg => mkB_ok is_pressB (fun {_ _ _ _ _ _} => pressB_calls mixed wayB_ok is_pressB kl_len kl_lt pressB) w ro hg)
set_option maxRecDepth 1000000 in
theorem runB_133 : vcSame (runSum Tryd.prog gl 100000 5 133 (mkB 10 gl)) (sumVC 133) = true := by kernel_rfl
theorem sumB_133 : BytesAt Tryd.prog gl 5 133 (sumN klN 133) := sum_bytes (hm := mixed) is_sumB runB_133 (fun w ro hg => mkB_ok is_pressB (fun {_ _ _ _ _ _} => pressB_calls mixed wayB_ok is_pressB kl_len kl_lt pressB) w ro hg)
set_option maxRecDepth 1000000 in
theorem runB_134 : vcSame (runSum Tryd.prog gl 100000 5 134 (mkB 10 gl)) (sumVC 134) = true := by kernel_rfl
theorem sumB_134 : BytesAt Tryd.prog gl 5 134 (sumN klN 134) := sum_bytes (hm := mixed) is_sumB runB_134 (fun w ro hg => mkB_ok is_pressB (fun {_ _ _ _ _ _} => pressB_calls mixed wayB_ok is_pressB kl_len kl_lt pressB) w ro hg)
set_option maxRecDepth 1000000 in
theorem runB_135 : vcSame (runSum Tryd.prog gl 100000 5 135 (mkB 10 gl)) (sumVC 135) = true := by kernel_rfl
theorem sumB_135 : BytesAt Tryd.prog gl 5 135 (sumN klN 135) := sum_bytes (hm := mixed) is_sumB runB_135 (fun w ro hg => mkB_ok is_pressB (fun {_ _ _ _ _ _} => pressB_calls mixed wayB_ok is_pressB kl_len kl_lt pressB) w ro hg)
set_option maxRecDepth 1000000 in
theorem runB_136 : vcSame (runSum Tryd.prog gl 100000 5 136 (mkB 10 gl)) (sumVC 136) = true := by kernel_rfl
theorem sumB_136 : BytesAt Tryd.prog gl 5 136 (sumN klN 136) := sum_bytes (hm := mixed) is_sumB runB_136 (fun w ro hg => mkB_ok is_pressB (fun {_ _ _ _ _ _} => pressB_calls mixed wayB_ok is_pressB kl_len kl_lt pressB) w ro hg)
set_option maxRecDepth 1000000 in
theorem runB_137 : vcSame (runSum Tryd.prog gl 100000 5 137 (mkB 10 gl)) (sumVC 137) = true := by kernel_rfl
theorem sumB_137 : BytesAt Tryd.prog gl 5 137 (sumN klN 137) := sum_bytes (hm := mixed) is_sumB runB_137 (fun w ro hg => mkB_ok is_pressB (fun {_ _ _ _ _ _} => pressB_calls mixed wayB_ok is_pressB kl_len kl_lt pressB) w ro hg)
set_option maxRecDepth 1000000 in
theorem runB_138 : vcSame (runSum Tryd.prog gl 100000 5 138 (mkB 10 gl)) (sumVC 138) = true := by kernel_rfl
theorem sumB_138 : BytesAt Tryd.prog gl 5 138 (sumN klN 138) := sum_bytes (hm := mixed) is_sumB runB_138 (fun w ro hg => mkB_ok is_pressB (fun {_ _ _ _ _ _} => pressB_calls mixed wayB_ok is_pressB kl_len kl_lt pressB) w ro hg)
set_option maxRecDepth 1000000 in
theorem runB_139 : vcSame (runSum Tryd.prog gl 100000 5 139 (mkB 10 gl)) (sumVC 139) = true := by kernel_rfl
theorem sumB_139 : BytesAt Tryd.prog gl 5 139 (sumN klN 139) := sum_bytes (hm := mixed) is_sumB runB_139 (fun w ro hg => mkB_ok is_pressB (fun {_ _ _ _ _ _} => pressB_calls mixed wayB_ok is_pressB kl_len kl_lt pressB) w ro hg)
set_option maxRecDepth 1000000 in
theorem runB_140 : vcSame (runSum Tryd.prog gl 100000 5 140 (mkB 10 gl)) (sumVC 140) = true := by kernel_rfl
theorem sumB_140 : BytesAt Tryd.prog gl 5 140 (sumN klN 140) := sum_bytes (hm := mixed) is_sumB runB_140 (fun w ro hg => mkB_ok is_pressB (fun {_ _ _ _ _ _} => pressB_calls mixed wayB_ok is_pressB kl_len kl_lt pressB) w ro hg)
set_option maxRecDepth 1000000 in
theorem runB_141 : vcSame (runSum Tryd.prog gl 100000 5 141 (mkB 10 gl)) (sumVC 141) = true := by kernel_rfl
theorem sumB_141 : BytesAt Tryd.prog gl 5 141 (sumN klN 141) := sum_bytes (hm := mixed) is_sumB runB_141 (fun w ro hg => mkB_ok is_pressB (fun {_ _ _ _ _ _} => pressB_calls mixed wayB_ok is_pressB kl_len kl_lt pressB) w ro hg)
set_option maxRecDepth 1000000 in
theorem runB_142 : vcSame (runSum Tryd.prog gl 100000 5 142 (mkB 10 gl)) (sumVC 142) = true := by kernel_rfl
theorem sumB_142 : BytesAt Tryd.prog gl 5 142 (sumN klN 142) := sum_bytes (hm := mixed) is_sumB runB_142 (fun w ro hg => mkB_ok is_pressB (fun {_ _ _ _ _ _} => pressB_calls mixed wayB_ok is_pressB kl_len kl_lt pressB) w ro hg)
set_option maxRecDepth 1000000 in
theorem runB_143 : vcSame (runSum Tryd.prog gl 100000 5 143 (mkB 10 gl)) (sumVC 143) = true := by kernel_rfl
theorem sumB_143 : BytesAt Tryd.prog gl 5 143 (sumN klN 143) := sum_bytes (hm := mixed) is_sumB runB_143 (fun w ro hg => mkB_ok is_pressB (fun {_ _ _ _ _ _} => pressB_calls mixed wayB_ok is_pressB kl_len kl_lt pressB) w ro hg)
set_option maxRecDepth 1000000 in
theorem runB_144 : vcSame (runSum Tryd.prog gl 100000 5 144 (mkB 10 gl)) (sumVC 144) = true := by kernel_rfl
theorem sumB_144 : BytesAt Tryd.prog gl 5 144 (sumN klN 144) := sum_bytes (hm := mixed) is_sumB runB_144 (fun w ro hg => mkB_ok is_pressB (fun {_ _ _ _ _ _} => pressB_calls mixed wayB_ok is_pressB kl_len kl_lt pressB) w ro hg)
set_option maxRecDepth 1000000 in
theorem runB_145 : vcSame (runSum Tryd.prog gl 100000 5 145 (mkB 10 gl)) (sumVC 145) = true := by kernel_rfl
theorem sumB_145 : BytesAt Tryd.prog gl 5 145 (sumN klN 145) := sum_bytes (hm := mixed) is_sumB runB_145 (fun w ro hg => mkB_ok is_pressB (fun {_ _ _ _ _ _} => pressB_calls mixed wayB_ok is_pressB kl_len kl_lt pressB) w ro hg)
set_option maxRecDepth 1000000 in
theorem runB_146 : vcSame (runSum Tryd.prog gl 100000 5 146 (mkB 10 gl)) (sumVC 146) = true := by kernel_rfl
theorem sumB_146 : BytesAt Tryd.prog gl 5 146 (sumN klN 146) := sum_bytes (hm := mixed) is_sumB runB_146 (fun w ro hg => mkB_ok is_pressB (fun {_ _ _ _ _ _} => pressB_calls mixed wayB_ok is_pressB kl_len kl_lt pressB) w ro hg)
set_option maxRecDepth 1000000 in
theorem runB_147 : vcSame (runSum Tryd.prog gl 100000 5 147 (mkB 10 gl)) (sumVC 147) = true := by kernel_rfl
theorem sumB_147 : BytesAt Tryd.prog gl 5 147 (sumN klN 147) := sum_bytes (hm := mixed) is_sumB runB_147 (fun w ro hg => mkB_ok is_pressB (fun {_ _ _ _ _ _} => pressB_calls mixed wayB_ok is_pressB kl_len kl_lt pressB) w ro hg)
set_option maxRecDepth 1000000 in
theorem runB_148 : vcSame (runSum Tryd.prog gl 100000 5 148 (mkB 10 gl)) (sumVC 148) = true := by kernel_rfl
theorem sumB_148 : BytesAt Tryd.prog gl 5 148 (sumN klN 148) := sum_bytes (hm := mixed) is_sumB runB_148 (fun w ro hg => mkB_ok is_pressB (fun {_ _ _ _ _ _} => pressB_calls mixed wayB_ok is_pressB kl_len kl_lt pressB) w ro hg)
set_option maxRecDepth 1000000 in
theorem runB_149 : vcSame (runSum Tryd.prog gl 100000 5 149 (mkB 10 gl)) (sumVC 149) = true := by kernel_rfl
theorem sumB_149 : BytesAt Tryd.prog gl 5 149 (sumN klN 149) := sum_bytes (hm := mixed) is_sumB runB_149 (fun w ro hg => mkB_ok is_pressB (fun {_ _ _ _ _ _} => pressB_calls mixed wayB_ok is_pressB kl_len kl_lt pressB) w ro hg)
set_option maxRecDepth 1000000 in
theorem runB_150 : vcSame (runSum Tryd.prog gl 100000 5 150 (mkB 10 gl)) (sumVC 150) = true := by kernel_rfl
theorem sumB_150 : BytesAt Tryd.prog gl 5 150 (sumN klN 150) := sum_bytes (hm := mixed) is_sumB runB_150 (fun w ro hg => mkB_ok is_pressB (fun {_ _ _ _ _ _} => pressB_calls mixed wayB_ok is_pressB kl_len kl_lt pressB) w ro hg)
theorem allB_5 : BAll Tryd.prog gl 5 [126, 127, 128, 129, 130, 131, 132, 133, 134, 135, 136, 137, 138, 139, 140, 141, 142, 143, 144, 145, 146, 147, 148, 149, 150] := ball_cons sumB_126 (ball_cons sumB_127 (ball_cons sumB_128 (ball_cons sumB_129 (ball_cons sumB_130 (ball_cons sumB_131 (ball_cons sumB_132 (ball_cons sumB_133 (ball_cons sumB_134 (ball_cons sumB_135 (ball_cons sumB_136 (ball_cons sumB_137 (ball_cons sumB_138 (ball_cons sumB_139 (ball_cons sumB_140 (ball_cons sumB_141 (ball_cons sumB_142 (ball_cons sumB_143 (ball_cons sumB_144 (ball_cons sumB_145 (ball_cons sumB_146 (ball_cons sumB_147 (ball_cons sumB_148 (ball_cons sumB_149 (ball_cons sumB_150 (ball_nil)))))))))))))))))))))))))
end Go.Proofs.YtfacieofpleobadDoor.Closed
