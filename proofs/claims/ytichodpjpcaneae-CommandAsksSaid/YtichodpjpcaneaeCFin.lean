/-
  CommandAsks returns true, for whatever arguments. No condition.
-/
import Derived.Test.YtichodpjpcaneaeCC
import Derived.Test.YtichodpjpcaneaeRows
import Derived.WalkKit
import Derived.ProofKit
import Derived.OpenShut
namespace Go.Proofs.Ytichodpjpcaneae.Closed
open Go.ChangeShapes Go.WideShapes Go.ChangeAt Go.RowKit Go.Sy Go.Sy.Res

theorem own : ownKnob Try.prog.godebug = none := by kernel_rfl
theorem is_fn : hasFn Try.prog 3 = true := by kernel_rfl
def shs : List Sh := [.agg ([.i .u64, .i .i64, .i .i64, .i .i64] ++ List.replicate 256 (.i .u8) ++ [.i .i64, .i .i64, .i .u64, .i .u64, .i .i64]), tab]
abbrev Q (fs : List T) : Prop := Symb Try.prog mixed con3 .nil 3 (tmpls 0 shs) (shs.flatMap Sh.cs).length fs
set_option maxRecDepth 1000000 in
theorem k1 : Q [.cmp .eql (.zv 2) (.z (.ofNat 1))] := Symb.run (n := 100000) (by kernel_rfl) is_fn
set_option maxRecDepth 1000000 in
theorem k2 : Q [.cmp .eql (.zv 2) (.z (.ofNat 2)), .cmp .neq (.zv 2) (.z (.ofNat 1))] := Symb.run (n := 100000) (by kernel_rfl) is_fn
set_option maxRecDepth 1000000 in
theorem k3 : Q [.cmp .eql (.zv 2) (.z (.ofNat 3)), .cmp .neq (.zv 2) (.z (.ofNat 2)), .cmp .neq (.zv 2) (.z (.ofNat 1))] := Symb.run (n := 100000) (by kernel_rfl) is_fn
set_option maxRecDepth 1000000 in
theorem k4 : Q [.cmp .eql (.zv 2) (.z (.ofNat 4)), .cmp .neq (.zv 2) (.z (.ofNat 3)), .cmp .neq (.zv 2) (.z (.ofNat 2)), .cmp .neq (.zv 2) (.z (.ofNat 1))] := Symb.run (n := 100000) (by kernel_rfl) is_fn
set_option maxRecDepth 1000000 in
theorem k5 : Q [.cmp .eql (.zv 2) (.z (.ofNat 5)), .cmp .neq (.zv 2) (.z (.ofNat 4)), .cmp .neq (.zv 2) (.z (.ofNat 3)), .cmp .neq (.zv 2) (.z (.ofNat 2)), .cmp .neq (.zv 2) (.z (.ofNat 1))] := Symb.run (n := 100000) (by kernel_rfl) is_fn
set_option maxRecDepth 1000000 in
theorem k6 : Q [.cmp .neq (.zv 2) (.z (.ofNat 5)), .cmp .neq (.zv 2) (.z (.ofNat 4)), .cmp .neq (.zv 2) (.z (.ofNat 3)), .cmp .neq (.zv 2) (.z (.ofNat 2)), .cmp .neq (.zv 2) (.z (.ofNat 1))] := Symb.run (n := 100000) (by kernel_rfl) is_fn
set_option maxRecDepth 1000000 in
theorem all : Symb Try.prog mixed con3 .nil 3 (tmpls 0 shs) (shs.flatMap Sh.cs).length (facts 0 shs) := Symb.drop (Symb.cut (fs := []) (.cmp .eql (.zv 2) (.z (.ofNat 1))) (by kernel_rfl) k1 (Symb.cut (fs := [.cmp .neq (.zv 2) (.z (.ofNat 1))]) (.cmp .eql (.zv 2) (.z (.ofNat 2))) (by kernel_rfl) k2 (Symb.cut (fs := [.cmp .neq (.zv 2) (.z (.ofNat 2)), .cmp .neq (.zv 2) (.z (.ofNat 1))]) (.cmp .eql (.zv 2) (.z (.ofNat 3))) (by kernel_rfl) k3 (Symb.cut (fs := [.cmp .neq (.zv 2) (.z (.ofNat 3)), .cmp .neq (.zv 2) (.z (.ofNat 2)), .cmp .neq (.zv 2) (.z (.ofNat 1))]) (.cmp .eql (.zv 2) (.z (.ofNat 4))) (by kernel_rfl) k4 (Symb.cut (fs := [.cmp .neq (.zv 2) (.z (.ofNat 4)), .cmp .neq (.zv 2) (.z (.ofNat 3)), .cmp .neq (.zv 2) (.z (.ofNat 2)), .cmp .neq (.zv 2) (.z (.ofNat 1))]) (.cmp .eql (.zv 2) (.z (.ofNat 5))) (by kernel_rfl) k5 k6)))))
theorem len_eq : Try.f3.params.toList.length = shs.length := by kernel_rfl
theorem shape : (Try.f3.params.toList.zip shs).all (fun p => shOK Try.prog p.1 p.2) = true := by kernel_rfl
set_option maxRecDepth 100000 in
theorem lifted (os : Os) (started : os.Started) (H : Type) (enc : TypeId × Value → H) :
    ReturnsInHanded {} Try.checked os 3 .any (Rows.commandAsksSpec.pre6 enc Try.prog Try.f3 Rows.commandAsksRow.domain false) (Rows.commandAsksSpec.post enc Try.prog Try.f3 false true false false) := by
  refine returnsInHanded_of_change (C := Try.checked) own started (by kernel_rfl) Try.func3
    (ChangeSpec.witness6 (enc := enc) (C := Try.checked) false ⟨#[], #[.agg (#[.int .u64 0, .int .i64 0, .int .i64 0, .int .i64 0] ++ Array.replicate 256 (.int .u8 0) ++ #[.int .i64 0, .int .i64 0, .int .u64 0, .int .u64 0, .int .i64 0]), .agg #[.int .u64 0, .int .u64 0, .int .u64 0, .int .u64 0, .int .u64 0, .int .u64 0, .int .u64 0, .int .u64 0, .int .u64 0, .int .u64 0, .int .u64 0, .int .u64 0, .int .u64 0, .int .u64 0, .int .u64 0, .int .u64 0, .int .u64 0, .int .i64 0, .int .i64 0]], []⟩ 8 (by kernel_rfl) (by kernel_rfl) (by kernel_rfl) (by kernel_rfl)) ?_
  intro W base args ds gs before hval0 hW hcnd _
  have hA := hW
  obtain ⟨p, q, hA, _⟩ := hA
  obtain ⟨hl1, hl2⟩ := trodAll_length hA
  have hd : ∃ d0 d1, ds = [d0, d1] := by
    have : ds.length = 2 := hl2
    match ds, this with
    | [d0, d1], _ => exact ⟨d0, d1, rfl⟩
  obtain ⟨d0, d1, rfl⟩ := hd
  refine (symb_calls (base := base) all len_eq shape hl1 (fun j t v h1 h2 => hval0 j t v ((Array.getElem?_toList (xs := Try.f3.params) (i := j)).symm.trans h1) h2) (globOK_nil W) (fun Θ => conOK_at (con3_at W Θ))).mono fun e W' ⟨he, hb⟩ => ?_
  subst he
  exact ⟨_, rfl, law_post (by kernel_rfl) rfl (by kernel_rfl) rfl (by kernel_rfl) hW rfl rfl rfl hb⟩

theorem over : Rows.commandAsksRow.holds Try.pinned (OpenSpec.ofChange Rows.commandAsksSpec) :=
  OpenClaim.holds_of_wide 3 Try.f3 rfl rfl rfl rfl rfl rfl rfl ⟨rfl, rfl, rfl, rfl, rfl⟩ rfl rfl rfl rfl rfl (by kernel_rfl) Try.func3 (by kernel_rfl)
    (of_decide_eq_true (by kernel_rfl)) (by unfold Func.isWrapper; first | (rw [if_pos (by decide +kernel)]; kernel_rfl) | (rw [if_neg (by decide +kernel)]; exact ⟨rfl, rfl⟩))
    (fun os started H enc _ => lifted os started H enc)

theorem proved : Rows.CommandAsksSaid := over
#print axioms proved
end Go.Proofs.Ytichodpjpcaneae.Closed
