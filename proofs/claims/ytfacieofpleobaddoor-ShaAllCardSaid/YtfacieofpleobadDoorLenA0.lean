import Derived.Test.YtfacieofpleobadDoorShaP
import Derived.ProofKit
/-! Sums of some lengths. -/
namespace Go.Proofs.YtfacieofpleobadDoor.Closed
open Go Go.Sy Go.Sy.Sha Go.RowKit
set_option maxRecDepth 1000000 in
theorem runA_nil : vcSame (runNil Tryd.prog gl 100000 4 (mkA 9 7 kl gl)) (sumVC 0) = true := by kernel_rfl
theorem nilA : NilAt Tryd.prog gl 4 := sum_nil (hm := mixed) is_sum runA_nil (fun w ro hg => mkA_ok kl_lt is_press (fun {_ _ _ _ _ _ _ _ _ _ _} => press_calls mixed wayA_ok is_press kl_len kl_lt pressA) is_const const_ok w ro hg)
set_option maxRecDepth 1000000 in
theorem runA_1 : vcSame (runSum Tryd.prog gl 100000 4 1 (mkA 9 7 kl gl)) (sumVC 1) = true := by kernel_rfl
theorem sumA_1 : BytesAt Tryd.prog gl 4 1 (sumN klN 1) := sum_bytes (hm := mixed) is_sum runA_1 (fun w ro hg => mkA_ok kl_lt is_press (fun {_ _ _ _ _ _ _ _ _ _ _} => press_calls mixed wayA_ok is_press kl_len kl_lt pressA) is_const const_ok w ro hg)
set_option maxRecDepth 1000000 in
theorem runA_2 : vcSame (runSum Tryd.prog gl 100000 4 2 (mkA 9 7 kl gl)) (sumVC 2) = true := by kernel_rfl
theorem sumA_2 : BytesAt Tryd.prog gl 4 2 (sumN klN 2) := sum_bytes (hm := mixed) is_sum runA_2 (fun w ro hg => mkA_ok kl_lt is_press (fun {_ _ _ _ _ _ _ _ _ _ _} => press_calls mixed wayA_ok is_press kl_len kl_lt pressA) is_const const_ok w ro hg)
set_option maxRecDepth 1000000 in
theorem runA_3 : vcSame (runSum Tryd.prog gl 100000 4 3 (mkA 9 7 kl gl)) (sumVC 3) = true := by kernel_rfl
theorem sumA_3 : BytesAt Tryd.prog gl 4 3 (sumN klN 3) := sum_bytes (hm := mixed) is_sum runA_3 (fun w ro hg => mkA_ok kl_lt is_press (fun {_ _ _ _ _ _ _ _ _ _ _} => press_calls mixed wayA_ok is_press kl_len kl_lt pressA) is_const const_ok w ro hg)
set_option maxRecDepth 1000000 in
theorem runA_4 : vcSame (runSum Tryd.prog gl 100000 4 4 (mkA 9 7 kl gl)) (sumVC 4) = true := by kernel_rfl
theorem sumA_4 : BytesAt Tryd.prog gl 4 4 (sumN klN 4) := sum_bytes (hm := mixed) is_sum runA_4 (fun w ro hg => mkA_ok kl_lt is_press (fun {_ _ _ _ _ _ _ _ _ _ _} => press_calls mixed wayA_ok is_press kl_len kl_lt pressA) is_const const_ok w ro hg)
set_option maxRecDepth 1000000 in
theorem runA_5 : vcSame (runSum Tryd.prog gl 100000 4 5 (mkA 9 7 kl gl)) (sumVC 5) = true := by kernel_rfl
theorem sumA_5 : BytesAt Tryd.prog gl 4 5 (sumN klN 5) := sum_bytes (hm := mixed) is_sum runA_5 (fun w ro hg => mkA_ok kl_lt is_press (fun {_ _ _ _ _ _ _ _ _ _ _} => press_calls mixed wayA_ok is_press kl_len kl_lt pressA) is_const const_ok w ro hg)
set_option maxRecDepth 1000000 in
theorem runA_6 : vcSame (runSum Tryd.prog gl 100000 4 6 (mkA 9 7 kl gl)) (sumVC 6) = true := by kernel_rfl
theorem sumA_6 : BytesAt Tryd.prog gl 4 6 (sumN klN 6) := sum_bytes (hm := mixed) is_sum runA_6 (fun w ro hg => mkA_ok kl_lt is_press (fun {_ _ _ _ _ _ _ _ _ _ _} => press_calls mixed wayA_ok is_press kl_len kl_lt pressA) is_const const_ok w ro hg)
set_option maxRecDepth 1000000 in
theorem runA_7 : vcSame (runSum Tryd.prog gl 100000 4 7 (mkA 9 7 kl gl)) (sumVC 7) = true := by kernel_rfl
theorem sumA_7 : BytesAt Tryd.prog gl 4 7 (sumN klN 7) := sum_bytes (hm := mixed) is_sum runA_7 (fun w ro hg => mkA_ok kl_lt is_press (fun {_ _ _ _ _ _ _ _ _ _ _} => press_calls mixed wayA_ok is_press kl_len kl_lt pressA) is_const const_ok w ro hg)
set_option maxRecDepth 1000000 in
theorem runA_8 : vcSame (runSum Tryd.prog gl 100000 4 8 (mkA 9 7 kl gl)) (sumVC 8) = true := by kernel_rfl
theorem sumA_8 : BytesAt Tryd.prog gl 4 8 (sumN klN 8) := sum_bytes (hm := mixed) is_sum runA_8 (fun w ro hg => mkA_ok kl_lt is_press (fun {_ _ _ _ _ _ _ _ _ _ _} => press_calls mixed wayA_ok is_press kl_len kl_lt pressA) is_const const_ok w ro hg)
set_option maxRecDepth 1000000 in
theorem runA_9 : vcSame (runSum Tryd.prog gl 100000 4 9 (mkA 9 7 kl gl)) (sumVC 9) = true := by kernel_rfl
theorem sumA_9 : BytesAt Tryd.prog gl 4 9 (sumN klN 9) := sum_bytes (hm := mixed) is_sum runA_9 (fun w ro hg => mkA_ok kl_lt is_press (fun {_ _ _ _ _ _ _ _ _ _ _} => press_calls mixed wayA_ok is_press kl_len kl_lt pressA) is_const const_ok w ro hg)
set_option maxRecDepth 1000000 in
theorem runA_10 : vcSame (runSum Tryd.prog gl 100000 4 10 (mkA 9 7 kl gl)) (sumVC 10) = true := by kernel_rfl
theorem sumA_10 : BytesAt Tryd.prog gl 4 10 (sumN klN 10) := sum_bytes (hm := mixed) is_sum runA_10 (fun w ro hg => mkA_ok kl_lt is_press (fun {_ _ _ _ _ _ _ _ _ _ _} => press_calls mixed wayA_ok is_press kl_len kl_lt pressA) is_const const_ok w ro hg)
set_option maxRecDepth 1000000 in
theorem runA_11 : vcSame (runSum Tryd.prog gl 100000 4 11 (mkA 9 7 kl gl)) (sumVC 11) = true := by kernel_rfl
theorem sumA_11 : BytesAt Tryd.prog gl 4 11 (sumN klN 11) := sum_bytes (hm := mixed) is_sum runA_11 (fun w ro hg => mkA_ok kl_lt is_press (fun {_ _ _ _ _ _ _ _ _ _ _} => press_calls mixed wayA_ok is_press kl_len kl_lt pressA) is_const const_ok w ro hg)
set_option maxRecDepth 1000000 in
theorem runA_12 : vcSame (runSum Tryd.prog gl 100000 4 12 (mkA 9 7 kl gl)) (sumVC 12) = true := by kernel_rfl
theorem sumA_12 : BytesAt Tryd.prog gl 4 12 (sumN klN 12) := sum_bytes (hm := mixed) is_sum runA_12 (fun w ro hg => mkA_ok kl_lt is_press (fun {_ _ _ _ _ _ _ _ _ _ _} => press_calls mixed wayA_ok is_press kl_len kl_lt pressA) is_const const_ok w ro hg)
set_option maxRecDepth 1000000 in
theorem runA_13 : vcSame (runSum Tryd.prog gl 100000 4 13 (mkA 9 7 kl gl)) (sumVC 13) = true := by kernel_rfl
theorem sumA_13 : BytesAt Tryd.prog gl 4 13 (sumN klN 13) := sum_bytes (hm := mixed) is_sum runA_13 (fun w ro hg => mkA_ok kl_lt is_press (fun {_ _ _ _ _ _ _ _ _ _ _} => press_calls mixed wayA_ok is_press kl_len kl_lt pressA) is_const const_ok w ro hg)
set_option maxRecDepth 1000000 in
theorem runA_14 : vcSame (runSum Tryd.prog gl 100000 4 14 (mkA 9 7 kl gl)) (sumVC 14) = true := by kernel_rfl
theorem sumA_14 : BytesAt Tryd.prog gl 4 14 (sumN klN 14) := sum_bytes (hm := mixed) is_sum runA_14 (fun w ro hg => mkA_ok kl_lt is_press (fun {_ _ _ _ _ _ _ _ _ _ _} => press_calls mixed wayA_ok is_press kl_len kl_lt pressA) is_const const_ok w ro hg)
set_option maxRecDepth 1000000 in
theorem runA_15 : vcSame (runSum Tryd.prog gl 100000 4 15 (mkA 9 7 kl gl)) (sumVC 15) = true := by kernel_rfl
theorem sumA_15 : BytesAt Tryd.prog gl 4 15 (sumN klN 15) := sum_bytes (hm := mixed) is_sum runA_15 (fun w ro hg => mkA_ok kl_lt is_press (fun {_ _ _ _ _ _ _ _ _ _ _} => press_calls mixed wayA_ok is_press kl_len kl_lt pressA) is_const const_ok w ro hg)
set_option maxRecDepth 1000000 in
theorem runA_16 : vcSame (runSum Tryd.prog gl 100000 4 16 (mkA 9 7 kl gl)) (sumVC 16) = true := by kernel_rfl
theorem sumA_16 : BytesAt Tryd.prog gl 4 16 (sumN klN 16) := sum_bytes (hm := mixed) is_sum runA_16 (fun w ro hg => mkA_ok kl_lt is_press (fun {_ _ _ _ _ _ _ _ _ _ _} => press_calls mixed wayA_ok is_press kl_len kl_lt pressA) is_const const_ok w ro hg)
set_option maxRecDepth 1000000 in
theorem runA_17 : vcSame (runSum Tryd.prog gl 100000 4 17 (mkA 9 7 kl gl)) (sumVC 17) = true := by kernel_rfl
theorem sumA_17 : BytesAt Tryd.prog gl 4 17 (sumN klN 17) := sum_bytes (hm := mixed) is_sum runA_17 (fun w ro hg => mkA_ok kl_lt is_press (fun {_ _ _ _ _ _ _ _ _ _ _} => press_calls mixed wayA_ok is_press kl_len kl_lt pressA) is_const const_ok w ro hg)
set_option maxRecDepth 1000000 in
theorem runA_18 : vcSame (runSum Tryd.prog gl 100000 4 18 (mkA 9 7 kl gl)) (sumVC 18) = true := by kernel_rfl
theorem sumA_18 : BytesAt Tryd.prog gl 4 18 (sumN klN 18) := sum_bytes (hm := mixed) is_sum runA_18 (fun w ro hg => mkA_ok kl_lt is_press (fun {_ _ _ _ _ _ _ _ _ _ _} => press_calls mixed wayA_ok is_press kl_len kl_lt pressA) is_const const_ok w ro hg)
set_option maxRecDepth 1000000 in
theorem runA_19 : vcSame (runSum Tryd.prog gl 100000 4 19 (mkA 9 7 kl gl)) (sumVC 19) = true := by kernel_rfl
theorem sumA_19 : BytesAt Tryd.prog gl 4 19 (sumN klN 19) := sum_bytes (hm := mixed) is_sum runA_19 (fun w ro hg => mkA_ok kl_lt is_press (fun {_ _ _ _ _ _ _ _ _ _ _} => press_calls mixed wayA_ok is_press kl_len kl_lt pressA) is_const const_ok w ro hg)
set_option maxRecDepth 1000000 in
theorem runA_20 : vcSame (runSum Tryd.prog gl 100000 4 20 (mkA 9 7 kl gl)) (sumVC 20) = true := by kernel_rfl
theorem sumA_20 : BytesAt Tryd.prog gl 4 20 (sumN klN 20) := sum_bytes (hm := mixed) is_sum runA_20 (fun w ro hg => mkA_ok kl_lt is_press (fun {_ _ _ _ _ _ _ _ _ _ _} => press_calls mixed wayA_ok is_press kl_len kl_lt pressA) is_const const_ok w ro hg)
set_option maxRecDepth 1000000 in
theorem runA_21 : vcSame (runSum Tryd.prog gl 100000 4 21 (mkA 9 7 kl gl)) (sumVC 21) = true := by kernel_rfl
theorem sumA_21 : BytesAt Tryd.prog gl 4 21 (sumN klN 21) := sum_bytes (hm := mixed) is_sum runA_21 (fun w ro hg => mkA_ok kl_lt is_press (fun {_ _ _ _ _ _ _ _ _ _ _} => press_calls mixed wayA_ok is_press kl_len kl_lt pressA) is_const const_ok w ro hg)
set_option maxRecDepth 1000000 in
theorem runA_22 : vcSame (runSum Tryd.prog gl 100000 4 22 (mkA 9 7 kl gl)) (sumVC 22) = true := by kernel_rfl
theorem sumA_22 : BytesAt Tryd.prog gl 4 22 (sumN klN 22) := sum_bytes (hm := mixed) is_sum runA_22 (fun w ro hg => mkA_ok kl_lt is_press (fun {_ _ _ _ _ _ _ _ _ _ _} => press_calls mixed wayA_ok is_press kl_len kl_lt pressA) is_const const_ok w ro hg)
set_option maxRecDepth 1000000 in
theorem runA_23 : vcSame (runSum Tryd.prog gl 100000 4 23 (mkA 9 7 kl gl)) (sumVC 23) = true := by kernel_rfl
theorem sumA_23 : BytesAt Tryd.prog gl 4 23 (sumN klN 23) := sum_bytes (hm := mixed) is_sum runA_23 (fun w ro hg => mkA_ok kl_lt is_press (fun {_ _ _ _ _ _ _ _ _ _ _} => press_calls mixed wayA_ok is_press kl_len kl_lt pressA) is_const const_ok w ro hg)
set_option maxRecDepth 1000000 in
theorem runA_24 : vcSame (runSum Tryd.prog gl 100000 4 24 (mkA 9 7 kl gl)) (sumVC 24) = true := by kernel_rfl
theorem sumA_24 : BytesAt Tryd.prog gl 4 24 (sumN klN 24) := sum_bytes (hm := mixed) is_sum runA_24 (fun w ro hg => mkA_ok kl_lt is_press (fun {_ _ _ _ _ _ _ _ _ _ _} => press_calls mixed wayA_ok is_press kl_len kl_lt pressA) is_const const_ok w ro hg)
set_option maxRecDepth 1000000 in
theorem runA_25 : vcSame (runSum Tryd.prog gl 100000 4 25 (mkA 9 7 kl gl)) (sumVC 25) = true := by kernel_rfl
theorem sumA_25 : BytesAt Tryd.prog gl 4 25 (sumN klN 25) := sum_bytes (hm := mixed) is_sum runA_25 (fun w ro hg => mkA_ok kl_lt is_press (fun {_ _ _ _ _ _ _ _ _ _ _} => press_calls mixed wayA_ok is_press kl_len kl_lt pressA) is_const const_ok w ro hg)
theorem allA_0 : BAll Tryd.prog gl 4 [1, 2, 3, 4, 5, 6, 7, 8, 9, 10, 11, 12, 13, 14, 15, 16, 17, 18, 19, 20, 21, 22, 23, 24, 25] := ball_cons sumA_1 (ball_cons sumA_2 (ball_cons sumA_3 (ball_cons sumA_4 (ball_cons sumA_5 (ball_cons sumA_6 (ball_cons sumA_7 (ball_cons sumA_8 (ball_cons sumA_9 (ball_cons sumA_10 (ball_cons sumA_11 (ball_cons sumA_12 (ball_cons sumA_13 (ball_cons sumA_14 (ball_cons sumA_15 (ball_cons sumA_16 (ball_cons sumA_17 (ball_cons sumA_18 (ball_cons sumA_19 (ball_cons sumA_20 (ball_cons sumA_21 (ball_cons sumA_22 (ball_cons sumA_23 (ball_cons sumA_24 (ball_cons sumA_25 (ball_nil)))))))))))))))))))))))))
end Go.Proofs.YtfacieofpleobadDoor.Closed
