import Derived.Test.YtfacieofpleobadDoorShaP
import Derived.ProofKit
/-! Sums of some lengths. -/
namespace Go.Proofs.YtfacieofpleobadDoor.Closed
open Go Go.Sy Go.Sy.Sha Go.RowKit
set_option maxRecDepth 1000000 in
theorem runB_nil : vcSame (runNil Tryd.prog gl 100000 5 (mkB 10 gl)) (sumVC 0) = true := by kernel_rfl
theorem nilB : NilAt Tryd.prog gl 5 := sum_nil (hm := mixed) is_sumB runB_nil (fun w ro hg => mkB_ok is_pressB (fun {_ _ _ _ _ _} => pressB_calls mixed wayB_ok is_pressB kl_len kl_lt pressB) w ro hg)
set_option maxRecDepth 1000000 in
theorem runB_1 : vcSame (runSum Tryd.prog gl 100000 5 1 (mkB 10 gl)) (sumVC 1) = true := by kernel_rfl
theorem sumB_1 : BytesAt Tryd.prog gl 5 1 (sumN klN 1) := sum_bytes (hm := mixed) is_sumB runB_1 (fun w ro hg => mkB_ok is_pressB (fun {_ _ _ _ _ _} => pressB_calls mixed wayB_ok is_pressB kl_len kl_lt pressB) w ro hg)
set_option maxRecDepth 1000000 in
theorem runB_2 : vcSame (runSum Tryd.prog gl 100000 5 2 (mkB 10 gl)) (sumVC 2) = true := by kernel_rfl
theorem sumB_2 : BytesAt Tryd.prog gl 5 2 (sumN klN 2) := sum_bytes (hm := mixed) is_sumB runB_2 (fun w ro hg => mkB_ok is_pressB (fun {_ _ _ _ _ _} => pressB_calls mixed wayB_ok is_pressB kl_len kl_lt pressB) w ro hg)
set_option maxRecDepth 1000000 in
theorem runB_3 : vcSame (runSum Tryd.prog gl 100000 5 3 (mkB 10 gl)) (sumVC 3) = true := by kernel_rfl
theorem sumB_3 : BytesAt Tryd.prog gl 5 3 (sumN klN 3) := sum_bytes (hm := mixed) is_sumB runB_3 (fun w ro hg => mkB_ok is_pressB (fun {_ _ _ _ _ _} => pressB_calls mixed wayB_ok is_pressB kl_len kl_lt pressB) w ro hg)
set_option maxRecDepth 1000000 in
theorem runB_4 : vcSame (runSum Tryd.prog gl 100000 5 4 (mkB 10 gl)) (sumVC 4) = true := by kernel_rfl
theorem sumB_4 : BytesAt Tryd.prog gl 5 4 (sumN klN 4) := sum_bytes (hm := mixed) is_sumB runB_4 (fun w ro hg => mkB_ok is_pressB (fun {_ _ _ _ _ _} => pressB_calls mixed wayB_ok is_pressB kl_len kl_lt pressB) w ro hg)
set_option maxRecDepth 1000000 in
theorem runB_5 : vcSame (runSum Tryd.prog gl 100000 5 5 (mkB 10 gl)) (sumVC 5) = true := by kernel_rfl
theorem sumB_5 : BytesAt Tryd.prog gl 5 5 (sumN klN 5) := sum_bytes (hm := mixed) is_sumB runB_5 (fun w ro hg => mkB_ok is_pressB (fun {_ _ _ _ _ _} => pressB_calls mixed wayB_ok is_pressB kl_len kl_lt pressB) w ro hg)
set_option maxRecDepth 1000000 in
theorem runB_6 : vcSame (runSum Tryd.prog gl 100000 5 6 (mkB 10 gl)) (sumVC 6) = true := by kernel_rfl
theorem sumB_6 : BytesAt Tryd.prog gl 5 6 (sumN klN 6) := sum_bytes (hm := mixed) is_sumB runB_6 (fun w ro hg => mkB_ok is_pressB (fun {_ _ _ _ _ _} => pressB_calls mixed wayB_ok is_pressB kl_len kl_lt pressB) w ro hg)
set_option maxRecDepth 1000000 in
theorem runB_7 : vcSame (runSum Tryd.prog gl 100000 5 7 (mkB 10 gl)) (sumVC 7) = true := by kernel_rfl
theorem sumB_7 : BytesAt Tryd.prog gl 5 7 (sumN klN 7) := sum_bytes (hm := mixed) is_sumB runB_7 (fun w ro hg => mkB_ok is_pressB (fun {_ _ _ _ _ _} => pressB_calls mixed wayB_ok is_pressB kl_len kl_lt pressB) w ro hg)
set_option maxRecDepth 1000000 in
theorem runB_8 : vcSame (runSum Tryd.prog gl 100000 5 8 (mkB 10 gl)) (sumVC 8) = true := by kernel_rfl
theorem sumB_8 : BytesAt Tryd.prog gl 5 8 (sumN klN 8) := sum_bytes (hm := mixed) is_sumB runB_8 (fun w ro hg => mkB_ok is_pressB (fun {_ _ _ _ _ _} => pressB_calls mixed wayB_ok is_pressB kl_len kl_lt pressB) w ro hg)
set_option maxRecDepth 1000000 in
theorem runB_9 : vcSame (runSum Tryd.prog gl 100000 5 9 (mkB 10 gl)) (sumVC 9) = true := by kernel_rfl
theorem sumB_9 : BytesAt Tryd.prog gl 5 9 (sumN klN 9) := sum_bytes (hm := mixed) is_sumB runB_9 (fun w ro hg => mkB_ok is_pressB (fun {_ _ _ _ _ _} => pressB_calls mixed wayB_ok is_pressB kl_len kl_lt pressB) w ro hg)
set_option maxRecDepth 1000000 in
theorem runB_10 : vcSame (runSum Tryd.prog gl 100000 5 10 (mkB 10 gl)) (sumVC 10) = true := by kernel_rfl
theorem sumB_10 : BytesAt Tryd.prog gl 5 10 (sumN klN 10) := sum_bytes (hm := mixed) is_sumB runB_10 (fun w ro hg => mkB_ok is_pressB (fun {_ _ _ _ _ _} => pressB_calls mixed wayB_ok is_pressB kl_len kl_lt pressB) w ro hg)
set_option maxRecDepth 1000000 in
theorem runB_11 : vcSame (runSum Tryd.prog gl 100000 5 11 (mkB 10 gl)) (sumVC 11) = true := by kernel_rfl
theorem sumB_11 : BytesAt Tryd.prog gl 5 11 (sumN klN 11) := sum_bytes (hm := mixed) is_sumB runB_11 (fun w ro hg => mkB_ok is_pressB (fun {_ _ _ _ _ _} => pressB_calls mixed wayB_ok is_pressB kl_len kl_lt pressB) w ro hg)
set_option maxRecDepth 1000000 in
theorem runB_12 : vcSame (runSum Tryd.prog gl 100000 5 12 (mkB 10 gl)) (sumVC 12) = true := by kernel_rfl
theorem sumB_12 : BytesAt Tryd.prog gl 5 12 (sumN klN 12) := sum_bytes (hm := mixed) is_sumB runB_12 (fun w ro hg => mkB_ok is_pressB (fun {_ _ _ _ _ _} => pressB_calls mixed wayB_ok is_pressB kl_len kl_lt pressB) w ro hg)
set_option maxRecDepth 1000000 in
theorem runB_13 : vcSame (runSum Tryd.prog gl 100000 5 13 (mkB 10 gl)) (sumVC 13) = true := by kernel_rfl
theorem sumB_13 : BytesAt Tryd.prog gl 5 13 (sumN klN 13) := sum_bytes (hm := mixed) is_sumB runB_13 (fun w ro hg => mkB_ok is_pressB (fun {_ _ _ _ _ _} => pressB_calls mixed wayB_ok is_pressB kl_len kl_lt pressB) w ro hg)
set_option maxRecDepth 1000000 in
theorem runB_14 : vcSame (runSum Tryd.prog gl 100000 5 14 (mkB 10 gl)) (sumVC 14) = true := by kernel_rfl
theorem sumB_14 : BytesAt Tryd.prog gl 5 14 (sumN klN 14) := sum_bytes (hm := mixed) is_sumB runB_14 (fun w ro hg => mkB_ok is_pressB (fun {_ _ _ _ _ _} => pressB_calls mixed wayB_ok is_pressB kl_len kl_lt pressB) w ro hg)
set_option maxRecDepth 1000000 in
theorem runB_15 : vcSame (runSum Tryd.prog gl 100000 5 15 (mkB 10 gl)) (sumVC 15) = true := by kernel_rfl
theorem sumB_15 : BytesAt Tryd.prog gl 5 15 (sumN klN 15) := sum_bytes (hm := mixed) is_sumB runB_15 (fun w ro hg => mkB_ok is_pressB (fun {_ _ _ _ _ _} => pressB_calls mixed wayB_ok is_pressB kl_len kl_lt pressB) w ro hg)
set_option maxRecDepth 1000000 in
theorem runB_16 : vcSame (runSum Tryd.prog gl 100000 5 16 (mkB 10 gl)) (sumVC 16) = true := by kernel_rfl
theorem sumB_16 : BytesAt Tryd.prog gl 5 16 (sumN klN 16) := sum_bytes (hm := mixed) is_sumB runB_16 (fun w ro hg => mkB_ok is_pressB (fun {_ _ _ _ _ _} => pressB_calls mixed wayB_ok is_pressB kl_len kl_lt pressB) w ro hg)
set_option maxRecDepth 1000000 in
theorem runB_17 : vcSame (runSum Tryd.prog gl 100000 5 17 (mkB 10 gl)) (sumVC 17) = true := by kernel_rfl
theorem sumB_17 : BytesAt Tryd.prog gl 5 17 (sumN klN 17) := sum_bytes (hm := mixed) is_sumB runB_17 (fun w ro hg => mkB_ok is_pressB (fun {_ _ _ _ _ _} => pressB_calls mixed wayB_ok is_pressB kl_len kl_lt pressB) w ro hg)
set_option maxRecDepth 1000000 in
theorem runB_18 : vcSame (runSum Tryd.prog gl 100000 5 18 (mkB 10 gl)) (sumVC 18) = true := by kernel_rfl
theorem sumB_18 : BytesAt Tryd.prog gl 5 18 (sumN klN 18) := sum_bytes (hm := mixed) is_sumB runB_18 (fun w ro hg => mkB_ok is_pressB (fun {_ _ _ _ _ _} => pressB_calls mixed wayB_ok is_pressB kl_len kl_lt pressB) w ro hg)
set_option maxRecDepth 1000000 in
theorem runB_19 : vcSame (runSum Tryd.prog gl 100000 5 19 (mkB 10 gl)) (sumVC 19) = true := by kernel_rfl
theorem sumB_19 : BytesAt Tryd.prog gl 5 19 (sumN klN 19) := sum_bytes (hm := mixed) is_sumB runB_19 (fun w ro hg => mkB_ok is_pressB (fun {_ _ _ _ _ _} => pressB_calls mixed wayB_ok is_pressB kl_len kl_lt pressB) w ro hg)
set_option maxRecDepth 1000000 in
theorem runB_20 : vcSame (runSum Tryd.prog gl 100000 5 20 (mkB 10 gl)) (sumVC 20) = true := by kernel_rfl
theorem sumB_20 : BytesAt Tryd.prog gl 5 20 (sumN klN 20) := sum_bytes (hm := mixed) is_sumB runB_20 (fun w ro hg => mkB_ok is_pressB (fun {_ _ _ _ _ _} => pressB_calls mixed wayB_ok is_pressB kl_len kl_lt pressB) w ro hg)
set_option maxRecDepth 1000000 in
theorem runB_21 : vcSame (runSum Tryd.prog gl 100000 5 21 (mkB 10 gl)) (sumVC 21) = true := by kernel_rfl
theorem sumB_21 : BytesAt Tryd.prog gl 5 21 (sumN klN 21) := sum_bytes (hm := mixed) is_sumB runB_21 (fun w ro hg => mkB_ok is_pressB (fun {_ _ _ _ _ _} => pressB_calls mixed wayB_ok is_pressB kl_len kl_lt pressB) w ro hg)
set_option maxRecDepth 1000000 in
theorem runB_22 : vcSame (runSum Tryd.prog gl 100000 5 22 (mkB 10 gl)) (sumVC 22) = true := by kernel_rfl
theorem sumB_22 : BytesAt Tryd.prog gl 5 22 (sumN klN 22) := sum_bytes (hm := mixed) is_sumB runB_22 (fun w ro hg => mkB_ok is_pressB (fun {_ _ _ _ _ _} => pressB_calls mixed wayB_ok is_pressB kl_len kl_lt pressB) w ro hg)
set_option maxRecDepth 1000000 in
theorem runB_23 : vcSame (runSum Tryd.prog gl 100000 5 23 (mkB 10 gl)) (sumVC 23) = true := by kernel_rfl
theorem sumB_23 : BytesAt Tryd.prog gl 5 23 (sumN klN 23) := sum_bytes (hm := mixed) is_sumB runB_23 (fun w ro hg => mkB_ok is_pressB (fun {_ _ _ _ _ _} => pressB_calls mixed wayB_ok is_pressB kl_len kl_lt pressB) w ro hg)
set_option maxRecDepth 1000000 in
theorem runB_24 : vcSame (runSum Tryd.prog gl 100000 5 24 (mkB 10 gl)) (sumVC 24) = true := by kernel_rfl
theorem sumB_24 : BytesAt Tryd.prog gl 5 24 (sumN klN 24) := sum_bytes (hm := mixed) is_sumB runB_24 (fun w ro hg => mkB_ok is_pressB (fun {_ _ _ _ _ _} => pressB_calls mixed wayB_ok is_pressB kl_len kl_lt pressB) w ro hg)
set_option maxRecDepth 1000000 in
theorem runB_25 : vcSame (runSum Tryd.prog gl 100000 5 25 (mkB 10 gl)) (sumVC 25) = true := by kernel_rfl
theorem sumB_25 : BytesAt Tryd.prog gl 5 25 (sumN klN 25) := sum_bytes (hm := mixed) is_sumB runB_25 (fun w ro hg => mkB_ok is_pressB (fun {_ _ _ _ _ _} => pressB_calls mixed wayB_ok is_pressB kl_len kl_lt pressB) w ro hg)
theorem allB_0 : BAll Tryd.prog gl 5 [1, 2, 3, 4, 5, 6, 7, 8, 9, 10, 11, 12, 13, 14, 15, 16, 17, 18, 19, 20, 21, 22, 23, 24, 25] := ball_cons sumB_1 (ball_cons sumB_2 (ball_cons sumB_3 (ball_cons sumB_4 (ball_cons sumB_5 (ball_cons sumB_6 (ball_cons sumB_7 (ball_cons sumB_8 (ball_cons sumB_9 (ball_cons sumB_10 (ball_cons sumB_11 (ball_cons sumB_12 (ball_cons sumB_13 (ball_cons sumB_14 (ball_cons sumB_15 (ball_cons sumB_16 (ball_cons sumB_17 (ball_cons sumB_18 (ball_cons sumB_19 (ball_cons sumB_20 (ball_cons sumB_21 (ball_cons sumB_22 (ball_cons sumB_23 (ball_cons sumB_24 (ball_cons sumB_25 (ball_nil)))))))))))))))))))))))))
end Go.Proofs.YtfacieofpleobadDoor.Closed
