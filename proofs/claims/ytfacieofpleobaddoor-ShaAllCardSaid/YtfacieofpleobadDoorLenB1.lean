import Derived.Test.YtfacieofpleobadDoorShaP
import Derived.ProofKit
/-! Sums of some lengths. -/
namespace Go.Proofs.YtfacieofpleobadDoor.Closed
open Go Go.Sy Go.Sy.Sha Go.RowKit
set_option maxRecDepth 1000000 in
theorem runB_26 : vcSame (runSum Tryd.prog gl 100000 5 26 (mkB 10 gl)) (sumVC 26) = true := by kernel_rfl
theorem sumB_26 : BytesAt Tryd.prog gl 5 26 (sumN klN 26) := sum_bytes (hm := mixed) is_sumB runB_26 (fun w ro hg => mkB_ok is_pressB (fun {_ _ _ _ _ _} => pressB_calls mixed wayB_ok is_pressB kl_len kl_lt pressB) w ro hg)
set_option maxRecDepth 1000000 in
theorem runB_27 : vcSame (runSum Tryd.prog gl 100000 5 27 (mkB 10 gl)) (sumVC 27) = true := by kernel_rfl
theorem sumB_27 : BytesAt Tryd.prog gl 5 27 (sumN klN 27) := sum_bytes (hm := mixed) is_sumB runB_27 (fun w ro hg => mkB_ok is_pressB (fun {_ _ _ _ _ _} => pressB_calls mixed wayB_ok is_pressB kl_len kl_lt pressB) w ro hg)
set_option maxRecDepth 1000000 in
theorem runB_28 : vcSame (runSum Tryd.prog gl 100000 5 28 (mkB 10 gl)) (sumVC 28) = true := by kernel_rfl
theorem sumB_28 : BytesAt Tryd.prog gl 5 28 (sumN klN 28) := sum_bytes (hm := mixed) is_sumB runB_28 (fun w ro hg => mkB_ok is_pressB (fun {_ _ _ _ _ _} => pressB_calls mixed wayB_ok is_pressB kl_len kl_lt pressB) w ro hg)
set_option maxRecDepth 1000000 in
theorem runB_29 : vcSame (runSum Tryd.prog gl 100000 5 29 (mkB 10 gl)) (sumVC 29) = true := by kernel_rfl
theorem sumB_29 : BytesAt Tryd.prog gl 5 29 (sumN klN 29) := sum_bytes (hm := mixed) is_sumB runB_29 (fun w ro hg => mkB_ok is_pressB (fun {_ _ _ _ _ _} => pressB_calls mixed wayB_ok is_pressB kl_len kl_lt pressB) w ro hg)
set_option maxRecDepth 1000000 in
theorem runB_30 : vcSame (runSum Tryd.prog gl 100000 5 30 (mkB 10 gl)) (sumVC 30) = true := by kernel_rfl
theorem sumB_30 : BytesAt Tryd.prog gl 5 30 (sumN klN 30) := sum_bytes (hm := mixed) is_sumB runB_30 (fun w ro hg => mkB_ok is_pressB (fun {_ _ _ _ _ _} => pressB_calls mixed wayB_ok is_pressB kl_len kl_lt pressB) w ro hg)
set_option maxRecDepth 1000000 in
theorem runB_31 : vcSame (runSum Tryd.prog gl 100000 5 31 (mkB 10 gl)) (sumVC 31) = true := by kernel_rfl
theorem sumB_31 : BytesAt Tryd.prog gl 5 31 (sumN klN 31) := sum_bytes (hm := mixed) is_sumB runB_31 (fun w ro hg => mkB_ok is_pressB (fun {_ _ _ _ _ _} => pressB_calls mixed wayB_ok is_pressB kl_len kl_lt pressB) w ro hg)
set_option maxRecDepth 1000000 in
theorem runB_32 : vcSame (runSum Tryd.prog gl 100000 5 32 (mkB 10 gl)) (sumVC 32) = true := by kernel_rfl
theorem sumB_32 : BytesAt Tryd.prog gl 5 32 (sumN klN 32) := sum_bytes (hm := mixed) is_sumB runB_32 (fun w ro hg => mkB_ok is_pressB (fun {_ _ _ _ _ _} => pressB_calls mixed wayB_ok is_pressB kl_len kl_lt pressB) w ro hg)
set_option maxRecDepth 1000000 in
theorem runB_33 : vcSame (runSum Tryd.prog gl 100000 5 33 (mkB 10 gl)) (sumVC 33) = true := by kernel_rfl
theorem sumB_33 : BytesAt Tryd.prog gl 5 33 (sumN klN 33) := sum_bytes (hm := mixed) is_sumB runB_33 (fun w ro hg => mkB_ok is_pressB (fun {_ _ _ _ _ _} => pressB_calls mixed wayB_ok is_pressB kl_len kl_lt pressB) w ro hg)
set_option maxRecDepth 1000000 in
theorem runB_34 : vcSame (runSum Tryd.prog gl 100000 5 34 (mkB 10 gl)) (sumVC 34) = true := by kernel_rfl
theorem sumB_34 : BytesAt Tryd.prog gl 5 34 (sumN klN 34) := sum_bytes (hm := mixed) is_sumB runB_34 (fun w ro hg => mkB_ok is_pressB (fun {_ _ _ _ _ _} => pressB_calls mixed wayB_ok is_pressB kl_len kl_lt pressB) w ro hg)
set_option maxRecDepth 1000000 in
theorem runB_35 : vcSame (runSum Tryd.prog gl 100000 5 35 (mkB 10 gl)) (sumVC 35) = true := by kernel_rfl
theorem sumB_35 : BytesAt Tryd.prog gl 5 35 (sumN klN 35) := sum_bytes (hm := mixed) is_sumB runB_35 (fun w ro hg => mkB_ok is_pressB (fun {_ _ _ _ _ _} => pressB_calls mixed wayB_ok is_pressB kl_len kl_lt pressB) w ro hg)
set_option maxRecDepth 1000000 in
theorem runB_36 : vcSame (runSum Tryd.prog gl 100000 5 36 (mkB 10 gl)) (sumVC 36) = true := by kernel_rfl
theorem sumB_36 : BytesAt Tryd.prog gl 5 36 (sumN klN 36) := sum_bytes (hm := mixed) is_sumB runB_36 (fun w ro hg => mkB_ok is_pressB (fun {_ _ _ _ _ _} => pressB_calls mixed wayB_ok is_pressB kl_len kl_lt pressB) w ro hg)
set_option maxRecDepth 1000000 in
theorem runB_37 : vcSame (runSum Tryd.prog gl 100000 5 37 (mkB 10 gl)) (sumVC 37) = true := by kernel_rfl
theorem sumB_37 : BytesAt Tryd.prog gl 5 37 (sumN klN 37) := sum_bytes (hm := mixed) is_sumB runB_37 (fun w ro hg => mkB_ok is_pressB (fun {_ _ _ _ _ _} => pressB_calls mixed wayB_ok is_pressB kl_len kl_lt pressB) w ro hg)
set_option maxRecDepth 1000000 in
theorem runB_38 : vcSame (runSum Tryd.prog gl 100000 5 38 (mkB 10 gl)) (sumVC 38) = true := by kernel_rfl
theorem sumB_38 : BytesAt Tryd.prog gl 5 38 (sumN klN 38) := sum_bytes (hm := mixed) is_sumB runB_38 (fun w ro hg => mkB_ok is_pressB (fun {_ _ _ _ _ _} => pressB_calls mixed wayB_ok is_pressB kl_len kl_lt pressB) w ro hg)
set_option maxRecDepth 1000000 in
theorem runB_39 : vcSame (runSum Tryd.prog gl 100000 5 39 (mkB 10 gl)) (sumVC 39) = true := by kernel_rfl
theorem sumB_39 : BytesAt Tryd.prog gl 5 39 (sumN klN 39) := sum_bytes (hm := mixed) is_sumB runB_39 (fun w ro hg => mkB_ok is_pressB (fun {_ _ _ _ _ _} => pressB_calls mixed wayB_ok is_pressB kl_len kl_lt pressB) w ro hg)
set_option maxRecDepth 1000000 in
theorem runB_40 : vcSame (runSum Tryd.prog gl 100000 5 40 (mkB 10 gl)) (sumVC 40) = true := by kernel_rfl
theorem sumB_40 : BytesAt Tryd.prog gl 5 40 (sumN klN 40) := sum_bytes (hm := mixed) is_sumB runB_40 (fun w ro hg => mkB_ok is_pressB (fun {_ _ _ _ _ _} => pressB_calls mixed wayB_ok is_pressB kl_len kl_lt pressB) w ro hg)
set_option maxRecDepth 1000000 in
theorem runB_41 : vcSame (runSum Tryd.prog gl 100000 5 41 (mkB 10 gl)) (sumVC 41) = true := by kernel_rfl
theorem sumB_41 : BytesAt Tryd.prog gl 5 41 (sumN klN 41) := sum_bytes (hm := mixed) is_sumB runB_41 (fun w ro hg => mkB_ok is_pressB (fun {_ _ _ _ _ _} => pressB_calls mixed wayB_ok is_pressB kl_len kl_lt pressB) w ro hg)
set_option maxRecDepth 1000000 in
theorem runB_42 : vcSame (runSum Tryd.prog gl 100000 5 42 (mkB 10 gl)) (sumVC 42) = true := by kernel_rfl
theorem sumB_42 : BytesAt Tryd.prog gl 5 42 (sumN klN 42) := sum_bytes (hm := mixed) is_sumB runB_42 (fun w ro hg => mkB_ok is_pressB (fun {_ _ _ _ _ _} => pressB_calls mixed wayB_ok is_pressB kl_len kl_lt pressB) w ro hg)
set_option maxRecDepth 1000000 in
theorem runB_43 : vcSame (runSum Tryd.prog gl 100000 5 43 (mkB 10 gl)) (sumVC 43) = true := by kernel_rfl
theorem sumB_43 : BytesAt Tryd.prog gl 5 43 (sumN klN 43) := sum_bytes (hm := mixed) is_sumB runB_43 (fun w ro hg => mkB_ok is_pressB (fun {_ _ _ _ _ _} => pressB_calls mixed wayB_ok is_pressB kl_len kl_lt pressB) w ro hg)
set_option maxRecDepth 1000000 in
theorem runB_44 : vcSame (runSum Tryd.prog gl 100000 5 44 (mkB 10 gl)) (sumVC 44) = true := by kernel_rfl
theorem sumB_44 : BytesAt Tryd.prog gl 5 44 (sumN klN 44) := sum_bytes (hm := mixed) is_sumB runB_44 (fun w ro hg => mkB_ok is_pressB (fun {_ _ _ _ _ _} => pressB_calls mixed wayB_ok is_pressB kl_len kl_lt pressB) w ro hg)
set_option maxRecDepth 1000000 in
theorem runB_45 : vcSame (runSum Tryd.prog gl 100000 5 45 (mkB 10 gl)) (sumVC 45) = true := by kernel_rfl
theorem sumB_45 : BytesAt Tryd.prog gl 5 45 (sumN klN 45) := sum_bytes (hm := mixed) is_sumB runB_45 (fun w ro hg => mkB_ok is_pressB (fun {_ _ _ _ _ _} => pressB_calls mixed wayB_ok is_pressB kl_len kl_lt pressB) w ro hg)
set_option maxRecDepth 1000000 in
theorem runB_46 : vcSame (runSum Tryd.prog gl 100000 5 46 (mkB 10 gl)) (sumVC 46) = true := by kernel_rfl
theorem sumB_46 : BytesAt Tryd.prog gl 5 46 (sumN klN 46) := sum_bytes (hm := mixed) is_sumB runB_46 (fun w ro hg => mkB_ok is_pressB (fun {_ _ _ _ _ _} => pressB_calls mixed wayB_ok is_pressB kl_len kl_lt pressB) w ro hg)
set_option maxRecDepth 1000000 in
theorem runB_47 : vcSame (runSum Tryd.prog gl 100000 5 47 (mkB 10 gl)) (sumVC 47) = true := by kernel_rfl
theorem sumB_47 : BytesAt Tryd.prog gl 5 47 (sumN klN 47) := sum_bytes (hm := mixed) is_sumB runB_47 (fun w ro hg => mkB_ok is_pressB (fun {_ _ _ _ _ _} => pressB_calls mixed wayB_ok is_pressB kl_len kl_lt pressB) w ro hg)
set_option maxRecDepth 1000000 in
theorem runB_48 : vcSame (runSum Tryd.prog gl 100000 5 48 (mkB 10 gl)) (sumVC 48) = true := by kernel_rfl
theorem sumB_48 : BytesAt Tryd.prog gl 5 48 (sumN klN 48) := sum_bytes (hm := mixed) is_sumB runB_48 (fun w ro hg => mkB_ok is_pressB (fun {_ _ _ _ _ _} => pressB_calls mixed wayB_ok is_pressB kl_len kl_lt pressB) w ro hg)
set_option maxRecDepth 1000000 in
theorem runB_49 : vcSame (runSum Tryd.prog gl 100000 5 49 (mkB 10 gl)) (sumVC 49) = true := by kernel_rfl
theorem sumB_49 : BytesAt Tryd.prog gl 5 49 (sumN klN 49) := sum_bytes (hm := mixed) is_sumB runB_49 (fun w ro hg => mkB_ok is_pressB (fun {_ _ _ _ _ _} => pressB_calls mixed wayB_ok is_pressB kl_len kl_lt pressB) w ro hg)
set_option maxRecDepth 1000000 in
theorem runB_50 : vcSame (runSum Tryd.prog gl 100000 5 50 (mkB 10 gl)) (sumVC 50) = true := by kernel_rfl
theorem sumB_50 : BytesAt Tryd.prog gl 5 50 (sumN klN 50) := sum_bytes (hm := mixed) is_sumB runB_50 (fun w ro hg => mkB_ok is_pressB (fun {_ _ _ _ _ _} => pressB_calls mixed wayB_ok is_pressB kl_len kl_lt pressB) w ro hg)
theorem allB_1 : BAll Tryd.prog gl 5 [26, 27, 28, 29, 30, 31, 32, 33, 34, 35, 36, 37, 38, 39, 40, 41, 42, 43, 44, 45, 46, 47, 48, 49, 50] := ball_cons sumB_26 (ball_cons sumB_27 (ball_cons sumB_28 (ball_cons sumB_29 (ball_cons sumB_30 (ball_cons sumB_31 (ball_cons sumB_32 (ball_cons sumB_33 (ball_cons sumB_34 (ball_cons sumB_35 (ball_cons sumB_36 (ball_cons sumB_37 (ball_cons sumB_38 (ball_cons sumB_39 (ball_cons sumB_40 (ball_cons sumB_41 (ball_cons sumB_42 (ball_cons sumB_43 (ball_cons sumB_44 (ball_cons sumB_45 (ball_cons sumB_46 (ball_cons sumB_47 (ball_cons sumB_48 (ball_cons sumB_49 (ball_cons sumB_50 (ball_nil)))))))))))))))))))))))))
end Go.Proofs.YtfacieofpleobadDoor.Closed
