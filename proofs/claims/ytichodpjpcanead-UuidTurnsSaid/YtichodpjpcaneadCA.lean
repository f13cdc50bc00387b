/-
  UuidTurns: contracts.
-/
import Derived.Test.YtichodpjpcaneadSyLast
import Derived.Test.YtichodpjpcaneadChecked
import Derived.KernelRfl
namespace Go.Proofs.Ytichodpjpcanead.Closed
open Go.Sy Go.Sy.Uu
theorem mixed : Try.prog.follows .mixedOrders = true := by kernel_rfl
noncomputable abbrev one1 : List Sh := [.one (.i .i64)]
noncomputable abbrev lin1 : List Sh := [line]
noncomputable abbrev lin2 : List Sh := [line, line]
set_option maxRecDepth 1000000 in
theorem turnT : (runS Try.prog .nil .nil 100000 (nzOf one1) (facts 0 one1) (.call 4 (tmpls 0 one1)) (isD turnD)).triv = true := by kernel_rfl
theorem is_turn : hasFn Try.prog 4 = true := by kernel_rfl
set_option maxRecDepth 1000000 in
theorem turn_spec : DSpec Try.prog .nil 4 one1 turnD := d_spec (hm := mixed) turnT (by kernel_rfl) (by kernel_rfl) is_turn (fun _ _ _ => conOK_nil)
set_option maxRecDepth 1000000 in
theorem turnrT : (runS Try.prog .nil .nil 100000 (nzOf one1) (facts 0 one1) (.call 5 (tmpls 0 one1)) (isD turnD)).triv = true := by kernel_rfl
theorem is_turnr : hasFn Try.prog 5 = true := by kernel_rfl
set_option maxRecDepth 1000000 in
theorem turnr_spec : DSpec Try.prog .nil 5 one1 turnD := d_spec (hm := mixed) turnrT (by kernel_rfl) (by kernel_rfl) is_turnr (fun _ _ _ => conOK_nil)
set_option maxRecDepth 1000000 in
theorem twiceT : (runS Try.prog .nil .nil 100000 (nzOf lin1) (facts 0 lin1) (.call 6 (tmpls 0 lin1)) (isD twiceD)).triv = true := by kernel_rfl
theorem is_twice : hasFn Try.prog 6 = true := by kernel_rfl
set_option maxRecDepth 1000000 in
theorem twice_spec : DSpec Try.prog .nil 6 lin1 twiceD := d_spec (hm := mixed) twiceT (by kernel_rfl) (by kernel_rfl) is_twice (fun _ _ _ => conOK_nil)
set_option maxRecDepth 1000000 in
theorem cmp1T : (runS Try.prog .nil .nil 100000 (nzOf lin2) (facts 0 lin2) (.call 8 (tmpls 0 lin2)) (isD (cmpD (shF 0 4)))).triv = true := by kernel_rfl
theorem is_cmp1 : hasFn Try.prog 8 = true := by kernel_rfl
set_option maxRecDepth 1000000 in
theorem cmp1_spec : DSpec Try.prog .nil 8 lin2 (cmpD (shF 0 4)) := d_spec (hm := mixed) cmp1T (by kernel_rfl) (by kernel_rfl) is_cmp1 (fun _ _ _ => conOK_nil)
set_option maxRecDepth 1000000 in
theorem cmp2T : (runS Try.prog .nil .nil 100000 (nzOf lin2) (facts 0 lin2) (.call 8 (tmpls 0 lin2)) (isD (cmpD (shF 4 0)))).triv = true := by kernel_rfl
theorem is_cmp2 : hasFn Try.prog 8 = true := by kernel_rfl
set_option maxRecDepth 1000000 in
theorem cmp2_spec : DSpec Try.prog .nil 8 lin2 (cmpD (shF 4 0)) := d_spec (hm := mixed) cmp2T (by kernel_rfl) (by kernel_rfl) is_cmp2 (fun _ _ _ => conOK_nil)
theorem is_known : hasFn Try.prog 7 = true := by kernel_rfl
set_option maxRecDepth 1000000 in
theorem knownT : (runX Try.prog .nil .nil 100000 (.call 7 []) (isValK (.bool true))).triv = true := by kernel_rfl
noncomputable def conU : Tr Con := ((((Tr.nil.set 4 (some conTurn)).set 5 (some conTurn)).set 6 (some (conD lin1 twiceD))).set 8 (some (conD2 firstLess lin2 (cmpD (shF 0 4)) (cmpD (shF 4 0))))).set 7 (some (conRes (constG (.bool true))))
theorem conU_ok (w : World) (Θ : Pred) : ConOK Try.prog mixed conU .nil w Θ .nil .nil :=
  conOK_at (conAt_set (ConCl.at ⟨_, rfl, .inr ⟨is_known, res_const knownT is_known ⟨.bool true, fun _ => rfl⟩ (globOK_nil w) (fun _ _ => conOK_nil)⟩⟩)
    (conAt_set (d2_at (d_at cmp1_spec (by kernel_rfl) (globOK_nil w) is_cmp1) (d_at cmp2_spec (by kernel_rfl) (globOK_nil w) is_cmp2))
    (conAt_set (d_at twice_spec (by kernel_rfl) (globOK_nil w) is_twice)
    (conAt_set (turn_at (Uu.turn_spec turnr_spec) is_turnr) (conAt_set (turn_at (Uu.turn_spec turn_spec) is_turn) conAt_nil)))))
theorem is_fn : hasFn Try.prog 3 = true := by kernel_rfl
def shs : List Sh := [.one (.i .i64), line, line]
abbrev Q (fs : List T) : Prop := Symb Try.prog mixed conU .nil 3 (tmpls 0 shs) (shs.flatMap Sh.cs).length fs
noncomputable abbrev eqn (i : Nat) : T := .cmp .eql (.zv i) (.z (.ofNat 0))
noncomputable abbrev nen (i : Nat) : T := .cmp .neq (.zv i) (.z (.ofNat 0))
end Go.Proofs.Ytichodpjpcanead.Closed
