import Derived.Test.YtfacieofpleobadDoorShaP
import Derived.ProofKit
/-! Sums of some lengths. -/
namespace Go.Proofs.YtfacieofpleobadDoor.Closed
open Go Go.Sy Go.Sy.Sha Go.RowKit
set_option maxRecDepth 1000000 in
theorem runB_76 : vcSame (runSum Tryd.prog gl 100000 5 76 (mkB 10 gl)) (sumVC 76) = true := by kernel_rfl
theorem sumB_76 : BytesAt Tryd.prog gl 5 76 (sumN klN 76) := sum_bytes (hm := mixed) is_sumB runB_76 (fun w ro hg => mkB_ok is_pressB (fun {_ _ _ _ _ _} => pressB_calls mixed wayB_ok is_pressB kl_len kl_lt pressB) w ro hg)
set_option maxRecDepth 1000000 in
theorem runB_77 : vcSame (runSum Tryd.prog gl 100000 5 77 (mkB 10 gl)) (sumVC 77) = true := by kernel_rfl
theorem sumB_77 : BytesAt Tryd.prog gl 5 77 (sumN klN 77) := sum_bytes (hm := mixed) is_sumB runB_77 (fun w ro hg => mkB_ok is_pressB (fun {_ _ _ _ _ _} => pressB_calls mixed wayB_ok is_pressB kl_len kl_lt pressB) w ro hg)
set_option maxRecDepth 1000000 in
theorem runB_78 : vcSame (runSum Tryd.prog gl 100000 5 78 (mkB 10 gl)) (sumVC 78) = true := by kernel_rfl
theorem sumB_78 : BytesAt Tryd.prog gl 5 78 (sumN klN 78) := sum_bytes (hm := mixed) is_sumB runB_78 (fun w ro hg => mkB_ok is_pressB (fun {_ _ _ _ _ _} => pressB_calls mixed wayB_ok is_pressB kl_len kl_lt pressB) w ro hg)
set_option maxRecDepth 1000000 in
theorem runB_79 : vcSame (runSum Tryd.prog gl 100000 5 79 (mkB 10 gl)) (sumVC 79) = true := by kernel_rfl
theorem sumB_79 : BytesAt Tryd.prog gl 5 79 (sumN klN 79) := sum_bytes (hm := mixed) is_sumB runB_79 (fun w ro hg => mkB_ok is_pressB (fun {_ _ _ _ _ _} => pressB_calls mixed wayB_ok is_pressB kl_len kl_lt pressB) w ro hg)
set_option maxRecDepth 1000000 in
theorem runB_80 : vcSame (runSum Tryd.prog gl 100000 5 80 (mkB 10 gl)) (sumVC 80) = true := by kernel_rfl
theorem sumB_80 : BytesAt Tryd.prog gl 5 80 (sumN klN 80) := sum_bytes (hm := mixed) is_sumB runB_80 (fun w ro hg => mkB_ok is_pressB (fun {_ _ _ _ _ _} => pressB_calls mixed wayB_ok is_pressB kl_len kl_lt pressB) w ro hg)
set_option maxRecDepth 1000000 in
theorem runB_81 : vcSame (runSum Tryd.prog gl 100000 5 81 (mkB 10 gl)) (sumVC 81) = true := by kernel_rfl
theorem sumB_81 : BytesAt Tryd.prog gl 5 81 (sumN klN 81) := sum_bytes (hm := mixed) is_sumB runB_81 (fun w ro hg => mkB_ok is_pressB (fun {_ _ _ _ _ _} => pressB_calls mixed wayB_ok is_pressB kl_len kl_lt pressB) w ro hg)
set_option maxRecDepth 1000000 in
theorem runB_82 : vcSame (runSum Tryd.prog gl 100000 5 82 (mkB 10 gl)) (sumVC 82) = true := by kernel_rfl
theorem sumB_82 : BytesAt Tryd.prog gl 5 82 (sumN klN 82) := sum_bytes (hm := mixed) is_sumB runB_82 (fun w ro hg => mkB_ok is_pressB (fun {_ _ _ _ _ _} => pressB_calls mixed wayB_ok is_pressB kl_len kl_lt pressB) w ro hg)
set_option maxRecDepth 1000000 in
theorem runB_83 : vcSame (runSum Tryd.prog gl 100000 5 83 (mkB 10 gl)) (sumVC 83) = true := by kernel_rfl
theorem sumB_83 : BytesAt Tryd.prog gl 5 83 (sumN klN 83) := sum_bytes (hm := mixed) is_sumB runB_83 (fun w ro hg => mkB_ok is_pressB (fun {_ _ _ _ _ _} => pressB_calls mixed wayB_ok is_pressB kl_len kl_lt pressB) w ro hg)
set_option maxRecDepth 1000000 in
theorem runB_84 : vcSame (runSum Tryd.prog gl 100000 5 84 (mkB 10 gl)) (sumVC 84) = true := by kernel_rfl
theorem sumB_84 : BytesAt Tryd.prog gl 5 84 (sumN klN 84) := sum_bytes (hm := mixed) is_sumB runB_84 (fun w ro hg => mkB_ok is_pressB (fun {_ _ _ _ _ _} => pressB_calls mixed wayB_ok is_pressB kl_len kl_lt pressB) w ro hg)
set_option maxRecDepth 1000000 in
theorem runB_85 : vcSame (runSum Tryd.prog gl 100000 5 85 (mkB 10 gl)) (sumVC 85) = true := by kernel_rfl
theorem sumB_85 : BytesAt Tryd.prog gl 5 85 (sumN klN 85) := sum_bytes (hm := mixed) is_sumB runB_85 (fun w ro hg => mkB_ok is_pressB (fun {_ _ _ _ _ _} => pressB_calls mixed wayB_ok is_pressB kl_len kl_lt pressB) w ro hg)
set_option maxRecDepth 1000000 in
theorem runB_86 : vcSame (runSum Tryd.prog gl 100000 5 86 (mkB 10 gl)) (sumVC 86) = true := by kernel_rfl
theorem sumB_86 : BytesAt Tryd.prog gl 5 86 (sumN klN 86) := sum_bytes (hm := mixed) is_sumB runB_86 (fun w ro hg => mkB_ok is_pressB (fun {_ _ _ _ _ _} => pressB_calls mixed wayB_ok is_pressB kl_len kl_lt pressB) w ro hg)
set_option maxRecDepth 1000000 in
theorem runB_87 : vcSame (runSum Tryd.prog gl 100000 5 87 (mkB 10 gl)) (sumVC 87) = true := by kernel_rfl
theorem sumB_87 : BytesAt Tryd.prog gl 5 87 (sumN klN 87) := sum_bytes (hm := mixed) is_sumB runB_87 (fun w ro hg => mkB_ok is_pressB (fun {_ _ _ _ _ _} => pressB_calls mixed wayB_ok is_pressB kl_len kl_lt pressB) w ro hg)
set_option maxRecDepth 1000000 in
theorem runB_88 : vcSame (runSum Tryd.prog gl 100000 5 88 (mkB 10 gl)) (sumVC 88) = true := by kernel_rfl
theorem sumB_88 : BytesAt Tryd.prog gl 5 88 (sumN klN 88) := sum_bytes (hm := mixed) is_sumB runB_88 (fun w ro hg => mkB_ok is_pressB (fun {_ _ _ _ _ _} => pressB_calls mixed wayB_ok is_pressB kl_len kl_lt pressB) w ro hg)
set_option maxRecDepth 1000000 in
theorem runB_89 : vcSame (runSum Tryd.prog gl 100000 5 89 (mkB 10 gl)) (sumVC 89) = true := by kernel_rfl
theorem sumB_89 : BytesAt Tryd.prog gl 5 89 (sumN klN 89) := sum_bytes (hm := mixed) is_sumB runB_89 (fun w ro hg => mkB_ok is_pressB (fun {_ _ _ _ _ _} => pressB_calls mixed wayB_ok is_pressB kl_len kl_lt pressB) w ro hg)
set_option maxRecDepth 1000000 in
theorem runB_90 : vcSame (runSum Tryd.prog gl 100000 5 90 (mkB 10 gl)) (sumVC 90) = true := by kernel_rfl
theorem sumB_90 : BytesAt Tryd.prog gl 5 90 (sumN klN 90) := sum_bytes (hm := mixed) is_sumB runB_90 (fun w ro hg => mkB_ok is_pressB (fun {_ _ _ _ _ _} => pressB_calls mixed wayB_ok is_pressB kl_len kl_lt pressB) w ro hg)
set_option maxRecDepth 1000000 in
theorem runB_91 : vcSame (runSum Tryd.prog gl 100000 5 91 (mkB 10 gl)) (sumVC 91) = true := by kernel_rfl
theorem sumB_91 : BytesAt Tryd.prog gl 5 91 (sumN klN 91) := sum_bytes (hm := mixed) is_sumB runB_91 (fun w ro hg => mkB_ok is_pressB (fun {_ _ _ _ _ _} => pressB_calls mixed wayB_ok is_pressB kl_len kl_lt pressB) w ro hg)
set_option maxRecDepth 1000000 in
theorem runB_92 : vcSame (runSum Tryd.prog gl 100000 5 92 (mkB 10 gl)) (sumVC 92) = true := by kernel_rfl
theorem sumB_92 : BytesAt Tryd.prog gl 5 92 (sumN klN 92) := sum_bytes (hm := mixed) is_sumB runB_92 (fun w ro hg => mkB_ok is_pressB (fun {_ _ _ _ _ _} => pressB_calls mixed wayB_ok is_pressB kl_len kl_lt pressB) w ro hg)
set_option maxRecDepth 1000000 in
theorem runB_93 : vcSame (runSum Tryd.prog gl 100000 5 93 (mkB 10 gl)) (sumVC 93) = true := by kernel_rfl
theorem sumB_93 : BytesAt Tryd.prog gl 5 93 (sumN klN 93) := sum_bytes (hm := mixed) is_sumB runB_93 (fun w ro hg => mkB_ok is_pressB (fun {_ _ _ _ _ _} => pressB_calls mixed wayB_ok is_pressB kl_len kl_lt pressB) w ro hg)
set_option maxRecDepth 1000000 in
theorem runB_94 : vcSame (runSum Tryd.prog gl 100000 5 94 (mkB 10 gl)) (sumVC 94) = true := by kernel_rfl
theorem sumB_94 : BytesAt Tryd.prog gl 5 94 (sumN klN 94) := sum_bytes (hm := mixed) is_sumB runB_94 (fun w ro hg => mkB_ok is_pressB (fun {_ _ _ _ _ _} => pressB_calls mixed wayB_ok is_pressB kl_len kl_lt pressB) w ro hg)
set_option maxRecDepth 1000000 in
theorem runB_95 : vcSame (runSum Tryd.prog gl 100000 5 95 (mkB 10 gl)) (sumVC 95) = true := by kernel_rfl
theorem sumB_95 : BytesAt Tryd.prog gl 5 95 (sumN klN 95) := sum_bytes (hm := mixed) is_sumB runB_95 (fun w ro hg => mkB_ok is_pressB (fun {_ _ _ _ _ _} => pressB_calls mixed wayB_ok is_pressB kl_len kl_lt pressB) w ro hg)
set_option maxRecDepth 1000000 in
theorem runB_96 : vcSame (runSum Tryd.prog gl 100000 5 96 (mkB 10 gl)) (sumVC 96) = true := by kernel_rfl
theorem sumB_96 : BytesAt Tryd.prog gl 5 96 (sumN klN 96) := sum_bytes (hm := mixed) is_sumB runB_96 (fun w ro hg => mkB_ok is_pressB (fun {_ _ _ _ _ _} => pressB_calls mixed wayB_ok is_pressB kl_len kl_lt pressB) w ro hg)
set_option maxRecDepth 1000000 in
theorem runB_97 : vcSame (runSum Tryd.prog gl 100000 5 97 (mkB 10 gl)) (sumVC 97) = true := by kernel_rfl
theorem sumB_97 : BytesAt Tryd.prog gl 5 97 (sumN klN 97) := sum_bytes (hm := mixed) is_sumB runB_97 (fun w ro hg => mkB_ok is_pressB (fun {_ _ _ _ _ _} => pressB_calls mixed wayB_ok is_pressB kl_len kl_lt pressB) w ro hg)
set_option maxRecDepth 1000000 in
theorem runB_98 : vcSame (runSum Tryd.prog gl 100000 5 98 (mkB 10 gl)) (sumVC 98) = true := by kernel_rfl
theorem sumB_98 : BytesAt Tryd.prog gl 5 98 (sumN klN 98) := sum_bytes (hm := mixed) is_sumB runB_98 (fun w ro hg => mkB_ok is_pressB (fun {_ _ _ _ _ _} => pressB_calls mixed wayB_ok is_pressB kl_len kl_lt pressB) w ro hg)
set_option maxRecDepth 1000000 in
theorem runB_99 : vcSame (runSum Tryd.prog gl 100000 5 99 (mkB 10 gl)) (sumVC 99) = true := by kernel_rfl
theorem sumB_99 : BytesAt Tryd.prog gl 5 99 (sumN klN 99) := sum_bytes (hm := mixed) is_sumB runB_99 (fun w ro hg => mkB_ok is_pressB (fun {_ _ _ _ _ _} => pressB_calls mixed wayB_ok is_pressB kl_len kl_lt pressB) w ro hg)
set_option maxRecDepth 1000000 in
theorem runB_100 : vcSame (runSum Tryd.prog gl 100000 5 100 (mkB 10 gl)) (sumVC 100) = true := by kernel_rfl
theorem sumB_100 : BytesAt Tryd.prog gl 5 100 (sumN klN 100) := sum_bytes (hm := mixed) is_sumB runB_100 (fun w ro hg => mkB_ok is_pressB (fun {_ _ _ _ _ _} => pressB_calls mixed wayB_ok is_pressB kl_len kl_lt pressB) w ro hg)
theorem allB_3 : BAll Tryd.prog gl 5 [76, 77, 78, 79, 80, 81, 82, 83, 84, 85, 86, 87, 88, 89, 90, 91, 92, 93, 94, 95, 96, 97, 98, 99, 100] := ball_cons sumB_76 (ball_cons sumB_77 (ball_cons sumB_78 (ball_cons sumB_79 (ball_cons sumB_80 (ball_cons sumB_81 (ball_cons sumB_82 (ball_cons sumB_83 (ball_cons sumB_84 (ball_cons sumB_85 (ball_cons sumB_86 (ball_cons sumB_87 (ball_cons sumB_88 (ball_cons sumB_89 (ball_cons sumB_90 (ball_cons sumB_91 (ball_cons sumB_92 (ball_cons sumB_93 (ball_cons sumB_94 (ball_cons sumB_95 (ball_cons sumB_96 (ball_cons sumB_97 (ball_cons sumB_98 (ball_cons sumB_99 (ball_cons sumB_100 (ball_nil)))))))))))))))))))))))))
end Go.Proofs.YtfacieofpleobadDoor.Closed
