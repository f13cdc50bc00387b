import Derived.Test.YtfacieofpleobadDoorShaP
import Derived.ProofKit
/-! Sums of some lengths. -/
namespace Go.Proofs.YtfacieofpleobadDoor.Closed
open Go Go.Sy Go.Sy.Sha Go.RowKit
set_option maxRecDepth 1000000 in
theorem runA_26 : vcSame (runSum Tryd.prog gl 100000 4 26 (mkA 9 7 kl gl)) (sumVC 26) = true := by kernel_rfl
theorem sumA_26 : BytesAt Tryd.prog gl 4 26 (sumN klN 26) := sum_bytes (hm := mixed) is_sum runA_26 (fun w ro hg => mkA_ok kl_lt is_press (fun {_ _ _ _ _ _ _ _ _ _ _} => press_calls mixed wayA_ok is_press kl_len kl_lt pressA) is_const const_ok w ro hg)
set_option maxRecDepth 1000000 in
theorem runA_27 : vcSame (runSum Tryd.prog gl 100000 4 27 (mkA 9 7 kl gl)) (sumVC 27) = true := by kernel_rfl
theorem sumA_27 : BytesAt Tryd.prog gl 4 27 (sumN klN 27) := sum_bytes (hm := mixed) is_sum runA_27 (fun w ro hg => mkA_ok kl_lt is_press (fun {_ _ _ _ _ _ _ _ _ _ _} => press_calls mixed wayA_ok is_press kl_len kl_lt pressA) is_const const_ok w ro hg)
set_option maxRecDepth 1000000 in
theorem runA_28 : vcSame (runSum Tryd.prog gl 100000 4 28 (mkA 9 7 kl gl)) (sumVC 28) = true := by kernel_rfl
theorem sumA_28 : BytesAt Tryd.prog gl 4 28 (sumN klN 28) := sum_bytes (hm := mixed) is_sum runA_28 (fun w ro hg => mkA_ok kl_lt is_press (fun {_ _ _ _ _ _ _ _ _ _ _} => press_calls mixed wayA_ok is_press kl_len kl_lt pressA) is_const const_ok w ro hg)
set_option maxRecDepth 1000000 in
theorem runA_29 : vcSame (runSum Tryd.prog gl 100000 4 29 (mkA 9 7 kl gl)) (sumVC 29) = true := by kernel_rfl
theorem sumA_29 : BytesAt Tryd.prog gl 4 29 (sumN klN 29) := sum_bytes (hm := mixed) is_sum runA_29 (fun w ro hg => mkA_ok kl_lt is_press (fun {_ _ _ _ _ _ _ _ _ _ _} => press_calls mixed wayA_ok is_press kl_len kl_lt pressA) is_const const_ok w ro hg)
set_option maxRecDepth 1000000 in
theorem runA_30 : vcSame (runSum Tryd.prog gl 100000 4 30 (mkA 9 7 kl gl)) (sumVC 30) = true := by kernel_rfl
theorem sumA_30 : BytesAt Tryd.prog gl 4 30 (sumN klN 30) := sum_bytes (hm := mixed) is_sum runA_30 (fun w ro hg => mkA_ok kl_lt is_press (fun {_ _ _ _ _ _ _ _ _ _ _} => press_calls mixed wayA_ok is_press kl_len kl_lt pressA) is_const const_ok w ro hg)
set_option maxRecDepth 1000000 in
theorem runA_31 : vcSame (runSum Tryd.prog gl 100000 4 31 (mkA 9 7 kl gl)) (sumVC 31) = true := by kernel_rfl
theorem sumA_31 : BytesAt Tryd.prog gl 4 31 (sumN klN 31) := sum_bytes (hm := mixed) is_sum runA_31 (fun w ro hg => mkA_ok kl_lt is_press (fun {_ _ _ _ _ _ _ _ _ _ _} => press_calls mixed wayA_ok is_press kl_len kl_lt pressA) is_const const_ok w ro hg)
set_option maxRecDepth 1000000 in
theorem runA_32 : vcSame (runSum Tryd.prog gl 100000 4 32 (mkA 9 7 kl gl)) (sumVC 32) = true := by kernel_rfl
theorem sumA_32 : BytesAt Tryd.prog gl 4 32 (sumN klN 32) := sum_bytes (hm := mixed) is_sum runA_32 (fun w ro hg => mkA_ok kl_lt is_press (fun {_ _ _ _ _ _ _ _ _ _ _} => press_calls mixed wayA_ok is_press kl_len kl_lt pressA) is_const const_ok w ro hg)
set_option maxRecDepth 1000000 in
theorem runA_33 : vcSame (runSum Tryd.prog gl 100000 4 33 (mkA 9 7 kl gl)) (sumVC 33) = true := by kernel_rfl
theorem sumA_33 : BytesAt Tryd.prog gl 4 33 (sumN klN 33) := sum_bytes (hm := mixed) is_sum runA_33 (fun w ro hg => mkA_ok kl_lt is_press (fun {_ _ _ _ _ _ _ _ _ _ _} => press_calls mixed wayA_ok is_press kl_len kl_lt pressA) is_const const_ok w ro hg)
set_option maxRecDepth 1000000 in
theorem runA_34 : vcSame (runSum Tryd.prog gl 100000 4 34 (mkA 9 7 kl gl)) (sumVC 34) = true := by kernel_rfl
theorem sumA_34 : BytesAt Tryd.prog gl 4 34 (sumN klN 34) := sum_bytes (hm := mixed) is_sum runA_34 (fun w ro hg => mkA_ok kl_lt is_press (fun {_ _ _ _ _ _ _ _ _ _ _} => press_calls mixed wayA_ok is_press kl_len kl_lt pressA) is_const const_ok w ro hg)
set_option maxRecDepth 1000000 in
theorem runA_35 : vcSame (runSum Tryd.prog gl 100000 4 35 (mkA 9 7 kl gl)) (sumVC 35) = true := by kernel_rfl
theorem sumA_35 : BytesAt Tryd.prog gl 4 35 (sumN klN 35) := sum_bytes (hm := mixed) is_sum runA_35 (fun w ro hg => mkA_ok kl_lt is_press (fun {_ _ _ _ _ _ _ _ _ _ _} => press_calls mixed wayA_ok is_press kl_len kl_lt pressA) is_const const_ok w ro hg)
set_option maxRecDepth 1000000 in
theorem runA_36 : vcSame (runSum Tryd.prog gl 100000 4 36 (mkA 9 7 kl gl)) (sumVC 36) = true := by kernel_rfl
theorem sumA_36 : BytesAt Tryd.prog gl 4 36 (sumN klN 36) := sum_bytes (hm := mixed) is_sum runA_36 (fun w ro hg => mkA_ok kl_lt is_press (fun {_ _ _ _ _ _ _ _ _ _ _} => press_calls mixed wayA_ok is_press kl_len kl_lt pressA) is_const const_ok w ro hg)
set_option maxRecDepth 1000000 in
theorem runA_37 : vcSame (runSum Tryd.prog gl 100000 4 37 (mkA 9 7 kl gl)) (sumVC 37) = true := by kernel_rfl
theorem sumA_37 : BytesAt Tryd.prog gl 4 37 (sumN klN 37) := sum_bytes (hm := mixed) is_sum runA_37 (fun w ro hg => mkA_ok kl_lt is_press (fun {_ _ _ _ _ _ _ _ _ _ _} => press_calls mixed wayA_ok is_press kl_len kl_lt pressA) is_const const_ok w ro hg)
set_option maxRecDepth 1000000 in
theorem runA_38 : vcSame (runSum Tryd.prog gl 100000 4 38 (mkA 9 7 kl gl)) (sumVC 38) = true := by kernel_rfl
theorem sumA_38 : BytesAt Tryd.prog gl 4 38 (sumN klN 38) := sum_bytes (hm := mixed) is_sum runA_38 (fun w ro hg => mkA_ok kl_lt is_press (fun {_ _ _ _ _ _ _ _ _ _ _} => press_calls mixed wayA_ok is_press kl_len kl_lt pressA) is_const const_ok w ro hg)
set_option maxRecDepth 1000000 in
theorem runA_39 : vcSame (runSum Tryd.prog gl 100000 4 39 (mkA 9 7 kl gl)) (sumVC 39) = true := by kernel_rfl
theorem sumA_39 : BytesAt Tryd.prog gl 4 39 (sumN klN 39) := sum_bytes (hm := mixed) is_sum runA_39 (fun w ro hg => mkA_ok kl_lt is_press (fun {_ _ _ _ _ _ _ _ _ _ _} => press_calls mixed wayA_ok is_press kl_len kl_lt pressA) is_const const_ok w ro hg)
set_option maxRecDepth 1000000 in
theorem runA_40 : vcSame (runSum Tryd.prog gl 100000 4 40 (mkA 9 7 kl gl)) (sumVC 40) = true := by kernel_rfl
theorem sumA_40 : BytesAt Tryd.prog gl 4 40 (sumN klN 40) := sum_bytes (hm := mixed) is_sum runA_40 (fun w ro hg => mkA_ok kl_lt is_press (fun {_ _ _ _ _ _ _ _ _ _ _} => press_calls mixed wayA_ok is_press kl_len kl_lt pressA) is_const const_ok w ro hg)
set_option maxRecDepth 1000000 in
theorem runA_41 : vcSame (runSum Tryd.prog gl 100000 4 41 (mkA 9 7 kl gl)) (sumVC 41) = true := by kernel_rfl
theorem sumA_41 : BytesAt Tryd.prog gl 4 41 (sumN klN 41) := sum_bytes (hm := mixed) is_sum runA_41 (fun w ro hg => mkA_ok kl_lt is_press (fun {_ _ _ _ _ _ _ _ _ _ _} => press_calls mixed wayA_ok is_press kl_len kl_lt pressA) is_const const_ok w ro hg)
set_option maxRecDepth 1000000 in
theorem runA_42 : vcSame (runSum Tryd.prog gl 100000 4 42 (mkA 9 7 kl gl)) (sumVC 42) = true := by kernel_rfl
theorem sumA_42 : BytesAt Tryd.prog gl 4 42 (sumN klN 42) := sum_bytes (hm := mixed) is_sum runA_42 (fun w ro hg => mkA_ok kl_lt is_press (fun {_ _ _ _ _ _ _ _ _ _ _} => press_calls mixed wayA_ok is_press kl_len kl_lt pressA) is_const const_ok w ro hg)
set_option maxRecDepth 1000000 in
theorem runA_43 : vcSame (runSum Tryd.prog gl 100000 4 43 (mkA 9 7 kl gl)) (sumVC 43) = true := by kernel_rfl
theorem sumA_43 : BytesAt Tryd.prog gl 4 43 (sumN klN 43) := sum_bytes (hm := mixed) is_sum runA_43 (fun w ro hg => mkA_ok kl_lt is_press (fun {_ _ _ _ _ _ _ _ _ _ _} => press_calls mixed wayA_ok is_press kl_len kl_lt pressA) is_const const_ok w ro hg)
set_option maxRecDepth 1000000 in
theorem runA_44 : vcSame (runSum Tryd.prog gl 100000 4 44 (mkA 9 7 kl gl)) (sumVC 44) = true := by kernel_rfl
theorem sumA_44 : BytesAt Tryd.prog gl 4 44 (sumN klN 44) := sum_bytes (hm := mixed) is_sum runA_44 (fun w ro hg => mkA_ok kl_lt is_press (fun {_ _ _ _ _ _ _ _ _ _ _} => press_calls mixed wayA_ok is_press kl_len kl_lt pressA) is_const const_ok w ro hg)
set_option maxRecDepth 1000000 in
theorem runA_45 : vcSame (runSum Tryd.prog gl 100000 4 45 (mkA 9 7 kl gl)) (sumVC 45) = true := by kernel_rfl
theorem sumA_45 : BytesAt Tryd.prog gl 4 45 (sumN klN 45) := sum_bytes (hm := mixed) is_sum runA_45 (fun w ro hg => mkA_ok kl_lt is_press (fun {_ _ _ _ _ _ _ _ _ _ _} => press_calls mixed wayA_ok is_press kl_len kl_lt pressA) is_const const_ok w ro hg)
set_option maxRecDepth 1000000 in
theorem runA_46 : vcSame (runSum Tryd.prog gl 100000 4 46 (mkA 9 7 kl gl)) (sumVC 46) = true := by kernel_rfl
theorem sumA_46 : BytesAt Tryd.prog gl 4 46 (sumN klN 46) := sum_bytes (hm := mixed) is_sum runA_46 (fun w ro hg => mkA_ok kl_lt is_press (fun {_ _ _ _ _ _ _ _ _ _ _} => press_calls mixed wayA_ok is_press kl_len kl_lt pressA) is_const const_ok w ro hg)
set_option maxRecDepth 1000000 in
theorem runA_47 : vcSame (runSum Tryd.prog gl 100000 4 47 (mkA 9 7 kl gl)) (sumVC 47) = true := by kernel_rfl
theorem sumA_47 : BytesAt Tryd.prog gl 4 47 (sumN klN 47) := sum_bytes (hm := mixed) is_sum runA_47 (fun w ro hg => mkA_ok kl_lt is_press (fun {_ _ _ _ _ _ _ _ _ _ _} => press_calls mixed wayA_ok is_press kl_len kl_lt pressA) is_const const_ok w ro hg)
set_option maxRecDepth 1000000 in
theorem runA_48 : vcSame (runSum Tryd.prog gl 100000 4 48 (mkA 9 7 kl gl)) (sumVC 48) = true := by kernel_rfl
theorem sumA_48 : BytesAt Tryd.prog gl 4 48 (sumN klN 48) := sum_bytes (hm := mixed) is_sum runA_48 (fun w ro hg => mkA_ok kl_lt is_press (fun {_ _ _ _ _ _ _ _ _ _ _} => press_calls mixed wayA_ok is_press kl_len kl_lt pressA) is_const const_ok w ro hg)
set_option maxRecDepth 1000000 in
theorem runA_49 : vcSame (runSum Tryd.prog gl 100000 4 49 (mkA 9 7 kl gl)) (sumVC 49) = true := by kernel_rfl
theorem sumA_49 : BytesAt Tryd.prog gl 4 49 (sumN klN 49) := sum_bytes (hm := mixed) is_sum runA_49 (fun w ro hg => mkA_ok kl_lt is_press (fun {_ _ _ _ _ _ _ _ _ _ _} => press_calls mixed wayA_ok is_press kl_len kl_lt pressA) is_const const_ok w ro hg)
set_option maxRecDepth 1000000 in
theorem runA_50 : vcSame (runSum Tryd.prog gl 100000 4 50 (mkA 9 7 kl gl)) (sumVC 50) = true := by kernel_rfl
theorem sumA_50 : BytesAt Tryd.prog gl 4 50 (sumN klN 50) := sum_bytes (hm := mixed) is_sum runA_50 (fun w ro hg => mkA_ok kl_lt is_press (fun {_ _ _ _ _ _ _ _ _ _ _} => press_calls mixed wayA_ok is_press kl_len kl_lt pressA) is_const const_ok w ro hg)
theorem allA_1 : BAll Tryd.prog gl 4 [26, 27, 28, 29, 30, 31, 32, 33, 34, 35, 36, 37, 38, 39, 40, 41, 42, 43, 44, 45, 46, 47, 48, 49, 50] := ball_cons sumA_26 (ball_cons sumA_27 (ball_cons sumA_28 (ball_cons sumA_29 (ball_cons sumA_30 (ball_cons sumA_31 (ball_cons sumA_32 (ball_cons sumA_33 (ball_cons sumA_34 (ball_cons sumA_35 (ball_cons sumA_36 (ball_cons sumA_37 (ball_cons sumA_38 (ball_cons sumA_39 (ball_cons sumA_40 (ball_cons sumA_41 (ball_cons sumA_42 (ball_cons sumA_43 (ball_cons sumA_44 (ball_cons sumA_45 (ball_cons sumA_46 (ball_cons sumA_47 (ball_cons sumA_48 (ball_cons sumA_49 (ball_cons sumA_50 (ball_nil)))))))))))))))))))))))))
end Go.Proofs.YtfacieofpleobadDoor.Closed
