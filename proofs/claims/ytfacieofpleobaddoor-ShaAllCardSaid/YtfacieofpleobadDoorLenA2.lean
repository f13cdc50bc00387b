import Derived.Test.YtfacieofpleobadDoorShaP
import Derived.ProofKit
/-! Sums of some lengths. -/
namespace Go.Proofs.YtfacieofpleobadDoor.Closed
open Go Go.Sy Go.Sy.Sha Go.RowKit
set_option maxRecDepth 1000000 in
theorem runA_51 : vcSame (runSum Tryd.prog gl 100000 4 51 (mkA 9 7 kl gl)) (sumVC 51) = true := by kernel_rfl
theorem sumA_51 : BytesAt Tryd.prog gl 4 51 (sumN klN 51) := sum_bytes (hm := mixed) is_sum runA_51 (fun w ro hg => mkA_ok kl_lt is_press (fun {_ _ _ _ _ _ _ _ _ _ _} => press_calls mixed wayA_ok is_press kl_len kl_lt pressA) is_const const_ok w ro hg)
set_option maxRecDepth 1000000 in
theorem runA_52 : vcSame (runSum Tryd.prog gl 100000 4 52 (mkA 9 7 kl gl)) (sumVC 52) = true := by kernel_rfl
theorem sumA_52 : BytesAt Tryd.prog gl 4 52 (sumN klN 52) := sum_bytes (hm := mixed) is_sum runA_52 (fun w ro hg => mkA_ok kl_lt is_press (fun {_ _ _ _ _ _ _ _ _ _ _} => press_calls mixed wayA_ok is_press kl_len kl_lt pressA) is_const const_ok w ro hg)
set_option maxRecDepth 1000000 in
theorem runA_53 : vcSame (runSum Tryd.prog gl 100000 4 53 (mkA 9 7 kl gl)) (sumVC 53) = true := by kernel_rfl
theorem sumA_53 : BytesAt Tryd.prog gl 4 53 (sumN klN 53) := sum_bytes (hm := mixed) is_sum runA_53 (fun w ro hg => mkA_ok kl_lt is_press (fun {_ _ _ _ _ _ _ _ _ _ _} => press_calls mixed wayA_ok is_press kl_len kl_lt pressA) is_const const_ok w ro hg)
set_option maxRecDepth 1000000 in
theorem runA_54 : vcSame (runSum Tryd.prog gl 100000 4 54 (mkA 9 7 kl gl)) (sumVC 54) = true := by kernel_rfl
theorem sumA_54 : BytesAt Tryd.prog gl 4 54 (sumN klN 54) := sum_bytes (hm := mixed) is_sum runA_54 (fun w ro hg => mkA_ok kl_lt is_press (fun {_ _ _ _ _ _ _ _ _ _ _} => press_calls mixed wayA_ok is_press kl_len kl_lt pressA) is_const const_ok w ro hg)
set_option maxRecDepth 1000000 in
theorem runA_55 : vcSame (runSum Tryd.prog gl 100000 4 55 (mkA 9 7 kl gl)) (sumVC 55) = true := by kernel_rfl
theorem sumA_55 : BytesAt Tryd.prog gl 4 55 (sumN klN 55) := sum_bytes (hm := mixed) is_sum runA_55 (fun w ro hg => mkA_ok kl_lt is_press (fun {_ _ _ _ _ _ _ _ _ _ _} => press_calls mixed wayA_ok is_press kl_len kl_lt pressA) is_const const_ok w ro hg)
set_option maxRecDepth 1000000 in
theorem runA_56 : vcSame (runSum Tryd.prog gl 100000 4 56 (mkA 9 7 kl gl)) (sumVC 56) = true := by kernel_rfl
theorem sumA_56 : BytesAt Tryd.prog gl 4 56 (sumN klN 56) := sum_bytes (hm := mixed) is_sum runA_56 (fun w ro hg => mkA_ok kl_lt is_press (fun {_ _ _ _ _ _ _ _ _ _ _} => press_calls mixed wayA_ok is_press kl_len kl_lt pressA) is_const const_ok w ro hg)
set_option maxRecDepth 1000000 in
theorem runA_57 : vcSame (runSum Tryd.prog gl 100000 4 57 (mkA 9 7 kl gl)) (sumVC 57) = true := by kernel_rfl
theorem sumA_57 : BytesAt Tryd.prog gl 4 57 (sumN klN 57) := sum_bytes (hm := mixed) is_sum runA_57 (fun w ro hg => mkA_ok kl_lt is_press (fun {_ _ _ _ _ _ _ _ _ _ _} => press_calls mixed wayA_ok is_press kl_len kl_lt pressA) is_const const_ok w ro hg)
set_option maxRecDepth 1000000 in
theorem runA_58 : vcSame (runSum Tryd.prog gl 100000 4 58 (mkA 9 7 kl gl)) (sumVC 58) = true := by kernel_rfl
theorem sumA_58 : BytesAt Tryd.prog gl 4 58 (sumN klN 58) := sum_bytes (hm := mixed) is_sum runA_58 (fun w ro hg => mkA_ok kl_lt is_press (fun {_ _ _ _ _ _ _ _ _ _ _} => press_calls mixed wayA_ok is_press kl_len kl_lt pressA) is_const const_ok w ro hg)
set_option maxRecDepth 1000000 in
theorem runA_59 : vcSame (runSum Tryd.prog gl 100000 4 59 (mkA 9 7 kl gl)) (sumVC 59) = true := by kernel_rfl
theorem sumA_59 : BytesAt Tryd.prog gl 4 59 (sumN klN 59) := sum_bytes (hm := mixed) is_sum runA_59 (fun w ro hg => mkA_ok kl_lt is_press (fun {_ _ _ _ _ _ _ _ _ _ _} => press_calls mixed wayA_ok is_press kl_len kl_lt pressA) is_const const_ok w ro hg)
set_option maxRecDepth 1000000 in
theorem runA_60 : vcSame (runSum Tryd.prog gl 100000 4 60 (mkA 9 7 kl gl)) (sumVC 60) = true := by kernel_rfl
theorem sumA_60 : BytesAt Tryd.prog gl 4 60 (sumN klN 60) := sum_bytes (hm := mixed) is_sum runA_60 (fun w ro hg => mkA_ok kl_lt is_press (fun {_ _ _ _ _ _ _ _ _ _ _} => press_calls mixed wayA_ok is_press kl_len kl_lt pressA) is_const const_ok w ro hg)
set_option maxRecDepth 1000000 in
theorem runA_61 : vcSame (runSum Tryd.prog gl 100000 4 61 (mkA 9 7 kl gl)) (sumVC 61) = true := by kernel_rfl
theorem sumA_61 : BytesAt Tryd.prog gl 4 61 (sumN klN 61) := sum_bytes (hm := mixed) is_sum runA_61 (fun w ro hg => mkA_ok kl_lt is_press (fun {_ _ _ _ _ _ _ _ _ _ _} => press_calls mixed wayA_ok is_press kl_len kl_lt pressA) is_const const_ok w ro hg)
set_option maxRecDepth 1000000 in
theorem runA_62 : vcSame (runSum Tryd.prog gl 100000 4 62 (mkA 9 7 kl gl)) (sumVC 62) = true := by kernel_rfl
theorem sumA_62 : BytesAt Tryd.prog gl 4 62 (sumN klN 62) := sum_bytes (hm := mixed) is_sum runA_62 (fun w ro hg => mkA_ok kl_lt is_press (fun {_ _ _ _ _ _ _ _ _ _ _} => press_calls mixed wayA_ok is_press kl_len kl_lt pressA) is_const const_ok w ro hg)
set_option maxRecDepth 1000000 in
theorem runA_63 : vcSame (runSum Tryd.prog gl 100000 4 63 (mkA 9 7 kl gl)) (sumVC 63) = true := by kernel_rfl
theorem sumA_63 : BytesAt Tryd.prog gl 4 63 (sumN klN 63) := sum_bytes (hm := mixed) is_sum runA_63 (fun w ro hg => mkA_ok kl_lt is_press (fun {_ _ _ _ _ _ _ _ _ _ _} => press_calls mixed wayA_ok is_press kl_len kl_lt pressA) is_const const_ok w ro hg)
set_option maxRecDepth 1000000 in
theorem runA_64 : vcSame (runSum Tryd.prog gl 100000 4 64 (mkA 9 7 kl gl)) (sumVC 64) = true := by kernel_rfl
theorem sumA_64 : BytesAt Tryd.prog gl 4 64 (sumN klN 64) := sum_bytes (hm := mixed) is_sum runA_64 (fun w ro hg => mkA_ok kl_lt is_press (fun {_ _ _ _ _ _ _ _ _ _ _} => press_calls mixed wayA_ok is_press kl_len kl_lt pressA) is_const const_ok w ro hg)
set_option maxRecDepth 1000000 in
theorem runA_65 : vcSame (runSum Tryd.prog gl 100000 4 65 (mkA 9 7 kl gl)) (sumVC 65) = true := by kernel_rfl
theorem sumA_65 : BytesAt Tryd.prog gl 4 65 (sumN klN 65) := sum_bytes (hm := mixed) is_sum runA_65 (fun w ro hg => mkA_ok kl_lt is_press (fun {_ _ _ _ _ _ _ _ _ _ _} => press_calls mixed wayA_ok is_press kl_len kl_lt pressA) is_const const_ok w ro hg)
set_option maxRecDepth 1000000 in
theorem runA_66 : vcSame (runSum Tryd.prog gl 100000 4 66 (mkA 9 7 kl gl)) (sumVC 66) = true := by kernel_rfl
theorem sumA_66 : BytesAt Tryd.prog gl 4 66 (sumN klN 66) := sum_bytes (hm := mixed) is_sum runA_66 (fun w ro hg => mkA_ok kl_lt is_press (fun {_ _ _ _ _ _ _ _ _ _ _} => press_calls mixed wayA_ok is_press kl_len kl_lt pressA) is_const const_ok w ro hg)
set_option maxRecDepth 1000000 in
theorem runA_67 : vcSame (runSum Tryd.prog gl 100000 4 67 (mkA 9 7 kl gl)) (sumVC 67) = true := by kernel_rfl
theorem sumA_67 : BytesAt Tryd.prog gl 4 67 (sumN klN 67) := sum_bytes (hm := mixed) is_sum runA_67 (fun w ro hg => mkA_ok kl_lt is_press (fun {_ _ _ _ _ _ _ _ _ _ _} => press_calls mixed wayA_ok is_press kl_len kl_lt pressA) is_const const_ok w ro hg)
set_option maxRecDepth 1000000 in
theorem runA_68 : vcSame (runSum Tryd.prog gl 100000 4 68 (mkA 9 7 kl gl)) (sumVC 68) = true := by kernel_rfl
theorem sumA_68 : BytesAt Tryd.prog gl 4 68 (sumN klN 68) := sum_bytes (hm := mixed) is_sum runA_68 (fun w ro hg => mkA_ok kl_lt is_press (fun {_ _ _ _ _ _ _ _ _ _ _} => press_calls mixed wayA_ok is_press kl_len kl_lt pressA) is_const const_ok w ro hg)
set_option maxRecDepth 1000000 in
theorem runA_69 : vcSame (runSum Tryd.prog gl 100000 4 69 (mkA 9 7 kl gl)) (sumVC 69) = true := by kernel_rfl
theorem sumA_69 : BytesAt Tryd.prog gl 4 69 (sumN klN 69) := sum_bytes (hm := mixed) is_sum runA_69 (fun w ro hg => mkA_ok kl_lt is_press (fun {_ _ _ _ _ _ _ _ _ _ _} => press_calls mixed wayA_ok is_press kl_len kl_lt pressA) is_const const_ok w ro hg)
set_option maxRecDepth 1000000 in
theorem runA_70 : vcSame (runSum Tryd.prog gl 100000 4 70 (mkA 9 7 kl gl)) (sumVC 70) = true := by kernel_rfl
theorem sumA_70 : BytesAt Tryd.prog gl 4 70 (sumN klN 70) := sum_bytes (hm := mixed) is_sum runA_70 (fun w ro hg => mkA_ok kl_lt is_press (fun {_ _ _ _ _ _ _ _ _ _ _} => press_calls mixed wayA_ok is_press kl_len kl_lt pressA) is_const const_ok w ro hg)
set_option maxRecDepth 1000000 in
theorem runA_71 : vcSame (runSum Tryd.prog gl 100000 4 71 (mkA 9 7 kl gl)) (sumVC 71) = true := by kernel_rfl
theorem sumA_71 : BytesAt Tryd.prog gl 4 71 (sumN klN 71) := sum_bytes (hm := mixed) is_sum runA_71 (fun w ro hg => mkA_ok kl_lt is_press (fun {_ _ _ _ _ _ _ _ _ _ _} => press_calls mixed wayA_ok is_press kl_len kl_lt pressA) is_const const_ok w ro hg)
set_option maxRecDepth 1000000 in
theorem runA_72 : vcSame (runSum Tryd.prog gl 100000 4 72 (mkA 9 7 kl gl)) (sumVC 72) = true := by kernel_rfl
theorem sumA_72 : BytesAt Tryd.prog gl 4 72 (sumN klN 72) := sum_bytes (hm := mixed) is_sum runA_72 (fun w ro hg => mkA_ok kl_lt is_press (fun {_ _ _ _ _ _ _ _ _ _ _} => press_calls mixed wayA_ok is_press kl_len kl_lt pressA) is_const const_ok w ro hg)
set_option maxRecDepth 1000000 in
theorem runA_73 : vcSame (runSum Tryd.prog gl 100000 4 73 (mkA 9 7 kl gl)) (sumVC 73) = true := by kernel_rfl
theorem sumA_73 : BytesAt Tryd.prog gl 4 73 (sumN klN 73) := sum_bytes (hm := mixed) is_sum runA_73 (fun w ro hg => mkA_ok kl_lt is_press (fun {_ _ _ _ _ _ _ _ _ _ _} => press_calls mixed wayA_ok is_press kl_len kl_lt pressA) is_const const_ok w ro hg)
set_option maxRecDepth 1000000 in
theorem runA_74 : vcSame (runSum Tryd.prog gl 100000 4 74 (mkA 9 7 kl gl)) (sumVC 74) = true := by kernel_rfl
theorem sumA_74 : BytesAt Tryd.prog gl 4 74 (sumN klN 74) := sum_bytes (hm := mixed) is_sum runA_74 (fun w ro hg => mkA_ok kl_lt is_press (fun {_ _ _ _ _ _ _ _ _ _ _} => press_calls mixed wayA_ok is_press kl_len kl_lt pressA) is_const const_ok w ro hg)
set_option maxRecDepth 1000000 in
theorem runA_75 : vcSame (runSum Tryd.prog gl 100000 4 75 (mkA 9 7 kl gl)) (sumVC 75) = true := by kernel_rfl
theorem sumA_75 : BytesAt Tryd.prog gl 4 75 (sumN klN 75) := sum_bytes (hm := mixed) is_sum runA_75 (fun w ro hg => mkA_ok kl_lt is_press (fun {_ _ _ _ _ _ _ _ _ _ _} => press_calls mixed wayA_ok is_press kl_len kl_lt pressA) is_const const_ok w ro hg)
theorem allA_2 : BAll Tryd.prog gl 4 [51, 52, 53, 54, 55, 56, 57, 58, 59, 60, 61, 62, 63, 64, 65, 66, 67, 68, 69, 70, 71, 72, 73, 74, 75] := ball_cons sumA_51 (ball_cons sumA_52 (ball_cons sumA_53 (ball_cons sumA_54 (ball_cons sumA_55 (ball_cons sumA_56 (ball_cons sumA_57 (ball_cons sumA_58 (ball_cons sumA_59 (ball_cons sumA_60 (ball_cons sumA_61 (ball_cons sumA_62 (ball_cons sumA_63 (ball_cons sumA_64 (ball_cons sumA_65 (ball_cons sumA_66 (ball_cons sumA_67 (ball_cons sumA_68 (ball_cons sumA_69 (ball_cons sumA_70 (ball_cons sumA_71 (ball_cons sumA_72 (ball_cons sumA_73 (ball_cons sumA_74 (ball_cons sumA_75 (ball_nil)))))))))))))))))))))))))
end Go.Proofs.YtfacieofpleobadDoor.Closed
