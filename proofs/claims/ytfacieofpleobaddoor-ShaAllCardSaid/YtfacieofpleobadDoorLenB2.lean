import Derived.Test.YtfacieofpleobadDoorShaP
import Derived.ProofKit
/-! Sums of some lengths. -/
namespace Go.Proofs.YtfacieofpleobadDoor.Closed
open Go Go.Sy Go.Sy.Sha Go.RowKit
set_option maxRecDepth 1000000 in
theorem runB_51 : vcSame (runSum Tryd.prog gl 100000 5 51 (mkB 10 gl)) (sumVC 51) = true := by kernel_rfl
theorem sumB_51 : BytesAt Tryd.prog gl 5 51 (sumN klN 51) := sum_bytes (hm := mixed) is_sumB runB_51 (fun w ro hg => mkB_ok is_pressB (fun {_ _ _ _ _ _} => pressB_calls mixed wayB_ok is_pressB kl_len kl_lt pressB) w ro hg)
set_option maxRecDepth 1000000 in
theorem runB_52 : vcSame (runSum Tryd.prog gl 100000 5 52 (mkB 10 gl)) (sumVC 52) = true := by kernel_rfl
theorem sumB_52 : BytesAt Tryd.prog gl 5 52 (sumN klN 52) := sum_bytes (hm := mixed) is_sumB runB_52 (fun w ro hg => mkB_ok is_pressB (fun {_ _ _ _ _ _} => pressB_calls mixed wayB_ok is_pressB kl_len kl_lt pressB) w ro hg)
set_option maxRecDepth 1000000 in
theorem runB_53 : vcSame (runSum Tryd.prog gl 100000 5 53 (mkB 10 gl)) (sumVC 53) = true := by kernel_rfl
theorem sumB_53 : BytesAt Tryd.prog gl 5 53 (sumN klN 53) := sum_bytes (hm := mixed) is_sumB runB_53 (fun w ro hg => mkB_ok is_pressB (fun {_ _ _ _ _ _} => pressB_calls mixed wayB_ok is_pressB kl_len kl_lt pressB) w ro hg)
set_option maxRecDepth 1000000 in
theorem runB_54 : vcSame (runSum Tryd.prog gl 100000 5 54 (mkB 10 gl)) (sumVC 54) = true := by kernel_rfl
theorem sumB_54 : BytesAt Tryd.prog gl 5 54 (sumN klN 54) := sum_bytes (hm := mixed) is_sumB runB_54 (fun w ro hg => mkB_ok is_pressB (fun {_ _ _ _ _ _} => pressB_calls mixed wayB_ok is_pressB kl_len kl_lt pressB) w ro hg)
set_option maxRecDepth 1000000 in
theorem runB_55 : vcSame (runSum Tryd.prog gl 100000 5 55 (mkB 10 gl)) (sumVC 55) = true := by kernel_rfl
theorem sumB_55 : BytesAt Tryd.prog gl 5 55 (sumN klN 55) := sum_bytes (hm := mixed) is_sumB runB_55 (fun w ro hg => mkB_ok is_pressB (fun {_ _ _ _ _ _} => pressB_calls mixed wayB_ok is_pressB kl_len kl_lt pressB) w ro hg)
set_option maxRecDepth 1000000 in
theorem runB_56 : vcSame (runSum Tryd.prog gl 100000 5 56 (mkB 10 gl)) (sumVC 56) = true := by kernel_rfl
theorem sumB_56 : BytesAt Tryd.prog gl 5 56 (sumN klN 56) := sum_bytes (hm := mixed) is_sumB runB_56 (fun w ro hg => mkB_ok is_pressB (fun {_ _ _ _ _ _} => pressB_calls mixed wayB_ok is_pressB kl_len kl_lt pressB) w ro hg)
set_option maxRecDepth 1000000 in
theorem runB_57 : vcSame (runSum Tryd.prog gl 100000 5 57 (mkB 10 gl)) (sumVC 57) = true := by kernel_rfl
theorem sumB_57 : BytesAt Tryd.prog gl 5 57 (sumN klN 57) := sum_bytes (hm := mixed) is_sumB runB_57 (fun w ro hg => mkB_ok is_pressB (fun {_ _ _ _ _ _} => pressB_calls mixed wayB_ok is_pressB kl_len kl_lt pressB) w ro hg)
set_option maxRecDepth 1000000 in
theorem runB_58 : vcSame (runSum Tryd.prog gl 100000 5 58 (mkB 10 gl)) (sumVC 58) = true := by kernel_rfl
theorem sumB_58 : BytesAt Tryd.prog gl 5 58 (sumN klN 58) := sum_bytes (hm := mixed) is_sumB runB_58 (fun w ro hg => mkB_ok is_pressB (fun {_ _ _ _ _ _} => pressB_calls mixed wayB_ok is_pressB kl_len kl_lt pressB) w ro hg)
set_option maxRecDepth 1000000 in
theorem runB_59 : vcSame (runSum Tryd.prog gl 100000 5 59 (mkB 10 gl)) (sumVC 59) = true := by kernel_rfl
theorem sumB_59 : BytesAt Tryd.prog gl 5 59 (sumN klN 59) := sum_bytes (hm := mixed) is_sumB runB_59 (fun w ro hg => mkB_ok is_pressB (fun {_ _ _ _ _ _} => pressB_calls mixed wayB_ok is_pressB kl_len kl_lt pressB) w ro hg)
set_option maxRecDepth 1000000 in
theorem runB_60 : vcSame (runSum Tryd.prog gl 100000 5 60 (mkB 10 gl)) (sumVC 60) = true := by kernel_rfl
theorem sumB_60 : BytesAt Tryd.prog gl 5 60 (sumN klN 60) := sum_bytes (hm := mixed) is_sumB runB_60 (fun w ro hg => mkB_ok is_pressB (fun {_ _ _ _ _ _} => pressB_calls mixed wayB_ok is_pressB kl_len kl_lt pressB) w ro hg)
set_option maxRecDepth 1000000 in
theorem runB_61 : vcSame (runSum Tryd.prog gl 100000 5 61 (mkB 10 gl)) (sumVC 61) = true := by kernel_rfl
theorem sumB_61 : BytesAt Tryd.prog gl 5 61 (sumN klN 61) := sum_bytes (hm := mixed) is_sumB runB_61 (fun w ro hg => mkB_ok is_pressB (fun {_ _ _ _ _ _} => pressB_calls mixed wayB_ok is_pressB kl_len kl_lt pressB) w ro hg)
set_option maxRecDepth 1000000 in
theorem runB_62 : vcSame (runSum Tryd.prog gl 100000 5 62 (mkB 10 gl)) (sumVC 62) = true := by kernel_rfl
theorem sumB_62 : BytesAt Tryd.prog gl 5 62 (sumN klN 62) := sum_bytes (hm := mixed) is_sumB runB_62 (fun w ro hg => mkB_ok is_pressB (fun {_ _ _ _ _ _} => pressB_calls mixed wayB_ok is_pressB kl_len kl_lt pressB) w ro hg)
set_option maxRecDepth 1000000 in
theorem runB_63 : vcSame (runSum Tryd.prog gl 100000 5 63 (mkB 10 gl)) (sumVC 63) = true := by kernel_rfl
theorem sumB_63 : BytesAt Tryd.prog gl 5 63 (sumN klN 63) := sum_bytes (hm := mixed) is_sumB runB_63 (fun w ro hg => mkB_ok is_pressB (fun {_ _ _ _ _ _} => pressB_calls mixed wayB_ok is_pressB kl_len kl_lt pressB) w ro hg)
set_option maxRecDepth 1000000 in
theorem runB_64 : vcSame (runSum Tryd.prog gl 100000 5 64 (mkB 10 gl)) (sumVC 64) = true := by kernel_rfl
theorem sumB_64 : BytesAt Tryd.prog gl 5 64 (sumN klN 64) := sum_bytes (hm := mixed) is_sumB runB_64 (fun w ro hg => mkB_ok is_pressB (fun {_ _ _ _ _ _} => pressB_calls mixed wayB_ok is_pressB kl_len kl_lt pressB) w ro hg)
set_option maxRecDepth 1000000 in
theorem runB_65 : vcSame (runSum Tryd.prog gl 100000 5 65 (mkB 10 gl)) (sumVC 65) = true := by kernel_rfl
theorem sumB_65 : BytesAt Tryd.prog gl 5 65 (sumN klN 65) := sum_bytes (hm := mixed) is_sumB runB_65 (fun w ro hg => mkB_ok is_pressB (fun {_ _ _ _ _ _} => pressB_calls mixed wayB_ok is_pressB kl_len kl_lt pressB) w ro hg)
set_option maxRecDepth 1000000 in
theorem runB_66 : vcSame (runSum Tryd.prog gl 100000 5 66 (mkB 10 gl)) (sumVC 66) = true := by kernel_rfl
theorem sumB_66 : BytesAt Tryd.prog gl 5 66 (sumN klN 66) := sum_bytes (hm := mixed) is_sumB runB_66 (fun w ro hg => mkB_ok is_pressB (fun {_ _ _ _ _ _} => pressB_calls mixed wayB_ok is_pressB kl_len kl_lt pressB) w ro hg)
set_option maxRecDepth 1000000 in
theorem runB_67 : vcSame (runSum Tryd.prog gl 100000 5 67 (mkB 10 gl)) (sumVC 67) = true := by kernel_rfl
theorem sumB_67 : BytesAt Tryd.prog gl 5 67 (sumN klN 67) := sum_bytes (hm := mixed) is_sumB runB_67 (fun w ro hg => mkB_ok is_pressB (fun {_ _ _ _ _ _} => pressB_calls mixed wayB_ok is_pressB kl_len kl_lt pressB) w ro hg)
set_option maxRecDepth 1000000 in
theorem runB_68 : vcSame (runSum Tryd.prog gl 100000 5 68 (mkB 10 gl)) (sumVC 68) = true := by kernel_rfl
theorem sumB_68 : BytesAt Tryd.prog gl 5 68 (sumN klN 68) := sum_bytes (hm := mixed) is_sumB runB_68 (fun w ro hg => mkB_ok is_pressB (fun {_ _ _ _ _ _} => pressB_calls mixed wayB_ok is_pressB kl_len kl_lt pressB) w ro hg)
set_option maxRecDepth 1000000 in
theorem runB_69 : vcSame (runSum Tryd.prog gl 100000 5 69 (mkB 10 gl)) (sumVC 69) = true := by kernel_rfl
theorem sumB_69 : BytesAt Tryd.prog gl 5 69 (sumN klN 69) := sum_bytes (hm := mixed) is_sumB runB_69 (fun w ro hg => mkB_ok is_pressB (fun {_ _ _ _ _ _} => pressB_calls mixed wayB_ok is_pressB kl_len kl_lt pressB) w ro hg)
set_option maxRecDepth 1000000 in
theorem runB_70 : vcSame (runSum Tryd.prog gl 100000 5 70 (mkB 10 gl)) (sumVC 70) = true := by kernel_rfl
theorem sumB_70 : BytesAt Tryd.prog gl 5 70 (sumN klN 70) := sum_bytes (hm := mixed) is_sumB runB_70 (fun w ro hg => mkB_ok is_pressB (fun {_ _ _ _ _ _} => pressB_calls mixed wayB_ok is_pressB kl_len kl_lt pressB) w ro hg)
set_option maxRecDepth 1000000 in
theorem runB_71 : vcSame (runSum Tryd.prog gl 100000 5 71 (mkB 10 gl)) (sumVC 71) = true := by kernel_rfl
theorem sumB_71 : BytesAt Tryd.prog gl 5 71 (sumN klN 71) := sum_bytes (hm := mixed) is_sumB runB_71 (fun w ro hg => mkB_ok is_pressB (fun {_ _ _ _ _ _} => pressB_calls mixed wayB_ok is_pressB kl_len kl_lt pressB) w ro hg)
set_option maxRecDepth 1000000 in
theorem runB_72 : vcSame (runSum Tryd.prog gl 100000 5 72 (mkB 10 gl)) (sumVC 72) = true := by kernel_rfl
theorem sumB_72 : BytesAt Tryd.prog gl 5 72 (sumN klN 72) := sum_bytes (hm := mixed) is_sumB runB_72 (fun w ro hg => mkB_ok is_pressB (fun {_ _ _ _ _ _} => pressB_calls mixed wayB_ok is_pressB kl_len kl_lt pressB) w ro hg)
set_option maxRecDepth 1000000 in
theorem runB_73 : vcSame (runSum Tryd.prog gl 100000 5 73 (mkB 10 gl)) (sumVC 73) = true := by kernel_rfl
theorem sumB_73 : BytesAt Tryd.prog gl 5 73 (sumN klN 73) := sum_bytes (hm := mixed) is_sumB runB_73 (fun w ro hg => mkB_ok is_pressB (fun {_ _ _ _ _ _} => pressB_calls mixed wayB_ok is_pressB kl_len kl_lt pressB) w ro hg)
set_option maxRecDepth 1000000 in
theorem runB_74 : vcSame (runSum Tryd.prog gl 100000 5 74 (mkB 10 gl)) (sumVC 74) = true := by kernel_rfl
theorem sumB_74 : BytesAt Tryd.prog gl 5 74 (sumN klN 74) := sum_bytes (hm := mixed) is_sumB runB_74 (fun w ro hg => mkB_ok is_pressB (fun {_ _ _ _ _ _} => pressB_calls mixed wayB_ok is_pressB kl_len kl_lt pressB) w ro hg)
set_option maxRecDepth 1000000 in
theorem runB_75 : vcSame (runSum Tryd.prog gl 100000 5 75 (mkB 10 gl)) (sumVC 75) = true := by kernel_rfl
theorem sumB_75 : BytesAt Tryd.prog gl 5 75 (sumN klN 75) := sum_bytes (hm := mixed) is_sumB runB_75 (fun w ro hg => mkB_ok is_pressB (fun {_ _ _ _ _ _} => pressB_calls mixed wayB_ok is_pressB kl_len kl_lt pressB) w ro hg)
theorem allB_2 : BAll Tryd.prog gl 5 [51, 52, 53, 54, 55, 56, 57, 58, 59, 60, 61, 62, 63, 64, 65, 66, 67, 68, 69, 70, 71, 72, 73, 74, 75] := ball_cons sumB_51 (ball_cons sumB_52 (ball_cons sumB_53 (ball_cons sumB_54 (ball_cons sumB_55 (ball_cons sumB_56 (ball_cons sumB_57 (ball_cons sumB_58 (ball_cons sumB_59 (ball_cons sumB_60 (ball_cons sumB_61 (ball_cons sumB_62 (ball_cons sumB_63 (ball_cons sumB_64 (ball_cons sumB_65 (ball_cons sumB_66 (ball_cons sumB_67 (ball_cons sumB_68 (ball_cons sumB_69 (ball_cons sumB_70 (ball_cons sumB_71 (ball_cons sumB_72 (ball_cons sumB_73 (ball_cons sumB_74 (ball_cons sumB_75 (ball_nil)))))))))))))))))))))))))
end Go.Proofs.YtfacieofpleobadDoor.Closed
