import Derived.Test.YtfacieofpleobadDoorShaP
import Derived.ProofKit
/-! Sums of some lengths. -/
namespace Go.Proofs.YtfacieofpleobadDoor.Closed
open Go Go.Sy Go.Sy.Sha Go.RowKit
set_option maxRecDepth 1000000 in
theorem runB_101 : vcSame (runSum Tryd.prog gl 100000 5 101 (mkB 10 gl)) (sumVC 101) = true := by kernel_rfl
theorem sumB_101 : BytesAt Tryd.prog gl 5 101 (sumN klN 101) := sum_bytes (hm := mixed) is_sumB runB_101 (fun w ro hg => mkB_ok is_pressB (fun {_ _ _ _ _ _} => pressB_calls mixed wayB_ok is_pressB kl_len kl_lt pressB) w ro hg)
set_option maxRecDepth 1000000 in
theorem runB_102 : vcSame (runSum Tryd.prog gl 100000 5 102 (mkB 10 gl)) (sumVC 102) = true := by kernel_rfl
theorem sumB_102 : BytesAt Tryd.prog gl 5 102 (sumN klN 102) := sum_bytes (hm := mixed) is_sumB runB_102 (fun w ro hg => mkB_ok is_pressB (fun {_ _ _ _ _ _} => pressB_calls mixed wayB_ok is_pressB kl_len kl_lt pressB) w ro hg)
set_option maxRecDepth 1000000 in
theorem runB_103 : vcSame (runSum Tryd.prog gl 100000 5 103 (mkB 10 gl)) (sumVC 103) = true := by kernel_rfl
theorem sumB_103 : BytesAt Tryd.prog gl 5 103 (sumN klN 103) := sum_bytes (hm := mixed) is_sumB runB_103 (fun w ro hg => mkB_ok is_pressB (fun {_ _ _ _ _ _} => pressB_calls mixed wayB_ok is_pressB kl_len kl_lt pressB) w ro hg)
set_option maxRecDepth 1000000 in
theorem runB_104 : vcSame (runSum Tryd.prog gl 100000 5 104 (mkB 10 gl)) (sumVC 104) = true := by kernel_rfl
theorem sumB_104 : BytesAt Tryd.prog gl 5 104 (sumN klN 104) := sum_bytes (hm := mixed) is_sumB runB_104 (fun w ro hg => mkB_ok is_pressB (fun {_ _ _ _ _ _} => pressB_calls mixed wayB_ok is_pressB kl_len kl_lt pressB) w ro hg)
set_option maxRecDepth 1000000 in
theorem runB_105 : vcSame (runSum Tryd.prog gl 100000 5 105 (mkB 10 gl)) (sumVC 105) = true := by kernel_rfl
theorem sumB_105 : BytesAt Tryd.prog gl 5 105 (sumN klN 105) := sum_bytes (hm := mixed) is_sumB runB_105 (fun w ro hg => mkB_ok is_pressB (fun {_ _ _ _ _ _} => pressB_calls mixed wayB_ok is_pressB kl_len kl_lt pressB) w ro hg)
set_option maxRecDepth 1000000 in
theorem runB_106 : vcSame (runSum Tryd.prog gl 100000 5 106 (mkB 10 gl)) (sumVC 106) = true := by kernel_rfl
theorem sumB_106 : BytesAt Tryd.prog gl 5 106 (sumN klN 106) := sum_bytes (hm := mixed) is_sumB runB_106 (fun w ro hg => mkB_ok is_pressB (fun {_ _ _ _ _ _} => pressB_calls mixed wayB_ok is_pressB kl_len kl_lt pressB) w ro hg)
set_option maxRecDepth 1000000 in
theorem runB_107 : vcSame (runSum Tryd.prog gl 100000 5 107 (mkB 10 gl)) (sumVC 107) = true := by kernel_rfl
theorem sumB_107 : BytesAt Tryd.prog gl 5 107 (sumN klN 107) := sum_bytes (hm := mixed) is_sumB runB_107 (fun w ro hg => mkB_ok is_pressB (fun {_ _ _ _ _ _} => pressB_calls mixed wayB_ok is_pressB kl_len kl_lt pressB) w ro hg)
set_option maxRecDepth 1000000 in
theorem runB_108 : vcSame (runSum Tryd.prog gl 100000 5 108 (mkB 10 gl)) (sumVC 108) = true := by kernel_rfl
theorem sumB_108 : BytesAt Tryd.prog gl 5 108 (sumN klN 108) := sum_bytes (hm := mixed) is_sumB runB_108 (fun w ro hg => mkB_ok is_pressB (fun {_ _ _ _ _ _} => pressB_calls mixed wayB_ok is_pressB kl_len kl_lt pressB) w ro hg)
set_option maxRecDepth 1000000 in
theorem runB_109 : vcSame (runSum Tryd.prog gl 100000 5 109 (mkB 10 gl)) (sumVC 109) = true := by kernel_rfl
theorem sumB_109 : BytesAt Tryd.prog gl 5 109 (sumN klN 109) := sum_bytes (hm := mixed) is_sumB runB_109 (fun w ro hg => mkB_ok is_pressB (fun {_ _ _ _ _ _} => pressB_calls mixed wayB_ok is_pressB kl_len kl_lt pressB) w ro hg)
set_option maxRecDepth 1000000 in
theorem runB_110 : vcSame (runSum Tryd.prog gl 100000 5 110 (mkB 10 gl)) (sumVC 110) = true := by kernel_rfl
theorem sumB_110 : BytesAt Tryd.prog gl 5 110 (sumN klN 110) := sum_bytes (hm := mixed) is_sumB runB_110 (fun w ro hg => mkB_ok is_pressB (fun {_ _ _ _ _ _} => pressB_calls mixed wayB_ok is_pressB kl_len kl_lt pressB) w ro hg)
set_option maxRecDepth 1000000 in
theorem runB_111 : vcSame (runSum Tryd.prog gl 100000 5 111 (mkB 10 gl)) (sumVC 111) = true := by kernel_rfl
theorem sumB_111 : BytesAt Tryd.prog gl 5 111 (sumN klN 111) := sum_bytes (hm := mixed) is_sumB runB_111 (fun w ro hg => mkB_ok is_pressB (fun {_ _ _ _ _ _} => pressB_calls mixed wayB_ok is_pressB kl_len kl_lt pressB) w ro hg)
set_option maxRecDepth 1000000 in
theorem runB_112 : vcSame (runSum Tryd.prog gl 100000 5 112 (mkB 10 gl)) (sumVC 112) = true := by kernel_rfl
theorem sumB_112 : BytesAt Tryd.prog gl 5 112 (sumN klN 112) := sum_bytes (hm := mixed) is_sumB runB_112 (fun w ro hg => mkB_ok is_pressB (fun {_ _ _ _ _ _} => pressB_calls mixed wayB_ok is_pressB kl_len kl_lt pressB) w ro hg)
set_option maxRecDepth 1000000 in
theorem runB_113 : vcSame (runSum Tryd.prog gl 100000 5 113 (mkB 10 gl)) (sumVC 113) = true := by kernel_rfl
theorem sumB_113 : BytesAt Tryd.prog gl 5 113 (sumN klN 113) := sum_bytes (hm := mixed) is_sumB runB_113 (fun w ro hg => mkB_ok is_pressB (fun {_ _ _ _ _ _} => pressB_calls mixed wayB_ok is_pressB kl_len kl_lt pressB) w ro hg)
set_option maxRecDepth 1000000 in
theorem runB_114 : vcSame (runSum Tryd.prog gl 100000 5 114 (mkB 10 gl)) (sumVC 114) = true := by kernel_rfl
theorem sumB_114 : BytesAt Tryd.prog gl 5 114 (sumN klN 114) := sum_bytes (hm := mixed) is_sumB runB_114 (fun w ro hg => mkB_ok is_pressB (fun {_ _ _ _ _ _} => pressB_calls mixed wayB_ok is_pressB kl_len kl_lt pressB) w ro hg)
set_option maxRecDepth 1000000 in
theorem runB_115 : vcSame (runSum Tryd.prog gl 100000 5 115 (mkB 10 gl)) (sumVC 115) = true := by kernel_rfl
theorem sumB_115 : BytesAt Tryd.prog gl 5 115 (sumN klN 115) := sum_bytes (hm := mixed) is_sumB runB_115 (fun w ro hg => mkB_ok is_pressB (fun {_ _ _ _ _ _} => pressB_calls mixed wayB_ok is_pressB kl_len kl_lt pressB) w ro hg)
set_option maxRecDepth 1000000 in
theorem runB_116 : vcSame (runSum Tryd.prog gl 100000 5 116 (mkB 10 gl)) (sumVC 116) = true := by kernel_rfl
theorem sumB_116 : BytesAt Tryd.prog gl 5 116 (sumN klN 116) := sum_bytes (hm := mixed) is_sumB runB_116 (fun w ro hg => mkB_ok is_pressB (fun {_ _ _ _ _ _} => pressB_calls mixed wayB_ok is_pressB kl_len kl_lt pressB) w ro hg)
set_option maxRecDepth 1000000 in
theorem runB_117 : vcSame (runSum Tryd.prog gl 100000 5 117 (mkB 10 gl)) (sumVC 117) = true := by kernel_rfl
theorem sumB_117 : BytesAt Tryd.prog gl 5 117 (sumN klN 117) := sum_bytes (hm := mixed) is_sumB runB_117 (fun w ro hg => mkB_ok is_pressB (fun {_ _ _ _ _ _} => pressB_calls mixed wayB_ok is_pressB kl_len kl_lt pressB) w ro hg)
set_option maxRecDepth 1000000 in
theorem runB_118 : vcSame (runSum Tryd.prog gl 100000 5 118 (mkB 10 gl)) (sumVC 118) = true := by kernel_rfl
theorem sumB_118 : BytesAt Tryd.prog gl 5 118 (sumN klN 118) := sum_bytes (hm := mixed) is_sumB runB_118 (fun w ro hg => mkB_ok is_pressB (fun {_ _ _ _ _ _} => pressB_calls mixed wayB_ok is_pressB kl_len kl_lt pressB) w ro hg)
set_option maxRecDepth 1000000 in
theorem runB_119 : vcSame (runSum Tryd.prog gl 100000 5 119 (mkB 10 gl)) (sumVC 119) = true := by kernel_rfl
theorem sumB_119 : BytesAt Tryd.prog gl 5 119 (sumN klN 119) := sum_bytes (hm := mixed) is_sumB runB_119 (fun w ro hg => mkB_ok is_pressB (fun {_ _ _ _ _ _} => pressB_calls mixed wayB_ok is_pressB kl_len kl_lt pressB) w ro hg)
set_option maxRecDepth 1000000 in
theorem runB_120 : vcSame (runSum Tryd.prog gl 100000 5 120 (mkB 10 gl)) (sumVC 120) = true := by kernel_rfl
theorem sumB_120 : BytesAt Tryd.prog gl 5 120 (sumN klN 120) := sum_bytes (hm := mixed) is_sumB runB_120 (fun w ro hg => mkB_ok is_pressB (fun {_ _ _ _ _ _} => pressB_calls mixed wayB_ok is_pressB kl_len kl_lt pressB) w ro hg)
set_option maxRecDepth 1000000 in
theorem runB_121 : vcSame (runSum Tryd.prog gl 100000 5 121 (mkB 10 gl)) (sumVC 121) = true := by kernel_rfl
theorem sumB_121 : BytesAt Tryd.prog gl 5 121 (sumN klN 121) := sum_bytes (hm := mixed) is_sumB runB_121 (fun w ro hg => mkB_ok is_pressB (fun {_ _ _ _ _ _} => pressB_calls mixed wayB_ok is_pressB kl_len kl_lt pressB) w ro hg)
set_option maxRecDepth 1000000 in
theorem runB_122 : vcSame (runSum Tryd.prog gl 100000 5 122 (mkB 10 gl)) (sumVC 122) = true := by kernel_rfl
theorem sumB_122 : BytesAt Tryd.prog gl 5 122 (sumN klN 122) := sum_bytes (hm := mixed) is_sumB runB_122 (fun w ro hg => mkB_ok is_pressB (fun {_ _ _ _ _ _} => pressB_calls mixed wayB_ok is_pressB kl_len kl_lt pressB) w ro hg)
set_option maxRecDepth 1000000 in
theorem runB_123 : vcSame (runSum Tryd.prog gl 100000 5 123 (mkB 10 gl)) (sumVC 123) = true := by kernel_rfl
theorem sumB_123 : BytesAt Tryd.prog gl 5 123 (sumN klN 123) := sum_bytes (hm := mixed) is_sumB runB_123 (fun w ro hg => mkB_ok is_pressB (fun {_ _ _ _ _ _} => pressB_calls mixed wayB_ok is_pressB kl_len kl_lt pressB) w ro hg)
set_option maxRecDepth 1000000 in
theorem runB_124 : vcSame (runSum Tryd.prog gl 100000 5 124 (mkB 10 gl)) (sumVC 124) = true := by kernel_rfl
theorem sumB_124 : BytesAt Tryd.prog gl 5 124 (sumN klN 124) := sum_bytes (hm := mixed) is_sumB runB_124 (fun w ro hg => mkB_ok is_pressB (fun {_ _ _ _ _ _} => pressB_calls mixed wayB_ok is_pressB kl_len kl_lt pressB) w ro hg)
set_option maxRecDepth 1000000 in
theorem runB_125 : vcSame (runSum Tryd.prog gl 100000 5 125 (mkB 10 gl)) (sumVC 125) = true := by kernel_rfl
theorem sumB_125 : BytesAt Tryd.prog gl 5 125 (sumN klN 125) := sum_bytes (hm := mixed) is_sumB runB_125 (fun w ro hg => mkB_ok is_pressB (fun {_ _ _ _ _ _} => pressB_calls mixed wayB_ok is_pressB kl_len kl_lt pressB) w ro hg)
theorem allB_4 : BAll Tryd.prog gl 5 [101, 102, 103, 104, 105, 106, 107, 108, 109, 110, 111, 112, 113, 114, 115, 116, 117, 118, 119, 120, 121, 122, 123, 124, 125] := ball_cons sumB_101 (ball_cons sumB_102 (ball_cons sumB_103 (ball_cons sumB_104 (ball_cons sumB_105 (ball_cons sumB_106 (ball_cons sumB_107 (ball_cons sumB_108 (ball_cons sumB_109 (ball_cons sumB_110 (ball_cons sumB_111 (ball_cons sumB_112 (ball_cons sumB_113 (ball_cons sumB_114 (ball_cons sumB_115 (ball_cons sumB_116 (ball_cons sumB_117 (ball_cons sumB_118 (ball_cons sumB_119 (ball_cons sumB_120 (ball_cons sumB_121 (ball_cons sumB_122 (ball_cons sumB_123 (ball_cons sumB_124 (ball_cons sumB_125 (ball_nil)))))))))))))))))))))))))
end Go.Proofs.YtfacieofpleobadDoor.Closed
