import Derived.Test.YtichodpjpcaneacDoorSySeven
/-! Contracts of sums of bytes that are not known: what a sum comes to stands for itself. -/
namespace Go.Sy
open Go.RowKit (Below)
namespace Sha
noncomputable def arrT : List AV → Option T
  | [] => some .nila
  | .int .u8 u :: r => obind (arrT r) fun t => some (.app (.ci .u8 (.z (.ofNat u))) t)
  | .sym .u8 x :: r => obind (arrT r) fun t => some (.app (.ci .u8 x) t)
  | _ => none
theorem arrT_inv {E : Env} : ∀ {l : List AV} {t : T} {xs : List Value}, arrT l = some t → denL E l = some xs → t.ev E.va = some (.a xs) ∧ ∃ ns : List Nat, xs = vals .u8 ns ∧ ∀ n ∈ ns, n < 256
  | [], t, xs, h, hx => by cases h; rw [denL_nil.1 hx]; exact ⟨rfl, [], rfl, by simp⟩
  | v :: l, t, xs, h, hx => by
    obtain ⟨x, xs', hx1, hx2, rfl⟩ := denL_cons.1 hx
    unfold arrT at h
    split at h
    · rename_i e; cases e
    · rename_i u r e
      cases e
      obtain ⟨q, hq, h⟩ := obind_inv h
      cases h
      obtain ⟨h1, ns, rfl, h3⟩ := arrT_inv hq hx2
      obtain ⟨hu, rfl⟩ := den_int hx1
      have hu : u < 256 := hu
      have e2 : sgn .u8 u = (u : Int) := sgn_nat .u8 hu
      refine ⟨by simp [T.ev, h1, e2], u :: ns, by simp [vals, e2], fun n hn => ?_⟩
      rcases List.mem_cons.1 hn with rfl | hn
      · exact hu
      · exact h3 n hn
    · rename_i y r e
      cases e
      obtain ⟨q, hq, h⟩ := obind_inv h
      cases h
      obtain ⟨h1, ns, rfl, h3⟩ := arrT_inv hq hx2
      obtain ⟨n, hn, hw, rfl⟩ := den_sym hx1
      have hr := wf_u8 hw
      refine ⟨by simp [T.ev, h1, hn], n.toNat :: ns, by simp [vals]; omega, fun m hm => ?_⟩
      rcases List.mem_cons.1 hm with rfl | hm
      · omega
      · exact h3 m hm
    · cases h
noncomputable def selF (x : T) (n : Nat) : Nat → List AV := Nat.rec (motive := fun _ => Nat → List AV) (fun _ => []) (fun _ ih j => .sym .u8 (.sel x (.z (.ofNat j))) :: ih (Nat.succ j)) n
theorem selF_get (x : T) : ∀ (n i j : Nat), (selF x n i)[j]? = if j < n then some (.sym .u8 (.sel x (.z (.ofNat (i + j))))) else none
  | 0, i, j => by show ([] : List AV)[j]? = _; simp
  | n + 1, i, j => by
    show (AV.sym .u8 (.sel x (.z (.ofNat i))) :: selF x n (i + 1))[j]? = _
    cases j with
    | zero => simp
    | succ j => rw [List.getElem?_cons_succ, selF_get x n (i + 1) j]; simp only [Nat.add_lt_add_iff_right]; rw [show i + 1 + j = i + (j + 1) by omega]
theorem selF_len (x : T) : ∀ (n i : Nat), (selF x n i).length = n
  | 0, i => rfl
  | n + 1, i => by show (selF x n (i + 1)).length + 1 = _; rw [selF_len x n]
theorem foldN_len (kl : List Nat) : ∀ (n : Nat) (s m : List Nat), s.length = 8 → (foldN kl n s m).length = 8
  | 0, _, _, h => h
  | n + 1, _, _, h => foldN_len kl n _ _ (pressN_len h).1
theorem outB_len : ∀ (s : List Nat), (outB s).length = 4 * s.length
  | [] => rfl
  | x :: s => by
    have e : outB (x :: s) = (x >>> 24) % 256 :: (x >>> 16) % 256 :: (x >>> 8) % 256 :: (x >>> 0) % 256 :: outB s := rfl
    rw [e]; simp [outB_len s]; omega
theorem sumN_len (kl : List Nat) (n : Nat) (l : List Nat) : (sumN kl n l).length = 32 := by
  show (outB (foldN kl (blks n) h0N (l ++ tailN n))).length = 32
  rw [outB_len, foldN_len kl _ _ _ rfl]
theorem byteOf_vals (l : List Nat) : (vals .u8 l).map byteOf = l := by
  simp [vals, byteOf, Function.comp_def]
noncomputable def conSum2 (cx : Cx) (lensN lens : List Nat) : Con := fun args st K => match args with
  | [.slice (some a) n _] => vif (memN n lens && Nat.blt 0 n) <| vbind (cellsFrom cx st n a.off a.b) fun cs =>
    Option.rec (vbind (arrT cs) fun x => K (.agg (selF (.typ 0 x) 32 0)) st)
      (fun l => bif_ (memN n lensN) (listK .u8 (sumN klN n l) fun vs => K (.agg vs) st) (vbind (arrT cs) fun x => K (.agg (selF (.typ 0 x) 32 0)) st)) (cellNats cs)
  | _ => .bad
section
variable {P : Program} {hm : P.follows .mixedOrders = true} {glob : Tr (Tr AV)} {w0 : World}
theorem sum2_at {Θ : Pred} {ls : Tr LSpec} {ro : Tr (Tr AV)} {cx : Cx} (hcx : cx.glob = glob) (hcr : cx.ro = ro) {f : FuncId} {lensN lens : List Nat} (hg : GlobOK glob w0) (hfn : hasFn P f = true) (hp : ∀ n ∈ lens, BytesAt P glob f n (sumN klN n)) : ConAt P hm glob w0 Θ ls ro f (conSum2 cx lensN lens) := by
  intro con args st k E R w xs hS hx hh
  have hc := cxOf_ok P hm con (ls := ls) (ro := ro) hg
  unfold conSum2 at hh
  split at hh
  · rename_i a n c0
    obtain ⟨hn, h0⟩ := vif_inv hh
    rw [Bool.and_eq_true, blt_iff, decide_eq_true_eq] at hn
    have hmem := memN_mem hn.1
    obtain ⟨cs, hcs, h1⟩ := vbind_inv h0
    obtain ⟨x1, r1, hx1, hr1, rfl⟩ := denL_cons.1 hx
    rw [denL_nil.1 hr1]
    simp only [AV.den] at hx1
    split at hx1
    · rename_i ad cc had hcc
      split at hx1
      · rename_i hle
        cases hx1
        have hcs' : cellsFrom (tabs P hm con glob ls ro).cx st n a.off a.b = some cs := cellsFrom_cx hcx hcr hcs
        obtain ⟨ys, y1, y2, _, y4⟩ := cells_sound hc hS (b := a.b) (o := a.off) hcs' had
        obtain ⟨ea, la⟩ := aden_lt (q := n) hc hS hcs' had hn.2
        obtain ⟨fn, g1, g2, g3⟩ := hasFn_inv hfn
        rw [callFunc_enter (P := P) g1 g2 g3]
        show CallsIn (FW none) 0 P f _ w _
        have fin : ∀ (l : List Nat), ys = vals .u8 l → (∀ m ∈ l, m < 256) → ∀ (v : AV), (k v st).holds Θ E.va R → v.den E = some (.agg (vals .u8 (sumN klN n l)).toArray) → CallsIn (FW none) 0 P f [Value.slice (some ad) n cc].toArray w (retOnly (Out (tabs P hm con glob ls ro) (· < w0.heap.size) w0 Θ R E st k)) := by
          intro l hl hlz v hv hden
          subst hl
          have hcl := hp n hmem w ad.block ad.off cc l (hg.kept hS.kept) hle (by simpa [vals] using y2) hlz la (fun i m hi => by
            have := y4 i (.int .u8 (m : Int)) (by simp [vals, hi])
            rw [ea, add_eq] at this
            rw [Nat.add_comm]; exact this)
          rw [← ea] at hcl
          refine (callsIn_wide.2 hcl).mono fun e w' ⟨he, hb⟩ => ?_
          subst he
          exact ⟨v, st, E, R, List.prefix_rfl, hv, .refl E, hS.grown (Kept.of_below hb), .refl E st, hden⟩
        have sym : (vbind (arrT cs) fun x => k (.agg (selF (.typ 0 x) 32 0)) st).holds Θ E.va R → CallsIn (FW none) 0 P f [Value.slice (some ad) n cc].toArray w (retOnly (Out (tabs P hm con glob ls ro) (· < w0.heap.size) w0 Θ R E st k)) := by
          intro h
          obtain ⟨x, hx, h⟩ := vbind_inv h
          obtain ⟨e1, l, e2, e3⟩ := arrT_inv hx y1
          refine fin l e2 e3 _ h (den_agg_of ?_)
          have hll : l.length = n := by rw [e2] at y2; simpa [vals] using y2
          refine denL_of (by simp [selF_len, vals, sumN_len]) fun i v hv => ?_
          rw [selF_get] at hv
          by_cases c : i < 32
          · rw [if_pos c] at hv; cases hv
            have hi : (sumN klN n l)[i]? = some ((sumN klN n l)[i]'(by rw [sumN_len]; exact c)) := List.getElem?_eq_getElem (by rw [sumN_len]; exact c)
            have hlt : (sumN klN n l)[i]'(by rw [sumN_len]; exact c) < 256 := outB_lt _ (List.getElem_mem _)
            refine ⟨_, den_sym_of (n := (((sumN klN n l)[i]'(by rw [sumN_len]; exact c) : Nat) : Int)) ?_ (u8_wf hlt), by simp [vals, hi]⟩
            have ht : (T.typ 0 x).ev E.va = some (.a (vals .u8 (sumN klN n l))) := by
              simp only [T.ev, e1]
              show some (D.a (typI 0 ys)) = _
              rw [e2]
              show some (D.a (vals .u8 (sumN klN (vals .u8 l).length ((vals .u8 l).map byteOf)))) = _
              rw [byteOf_vals, show (vals .u8 l).length = n by simp [vals, hll]]
            show (match (T.typ 0 x).ev E.va, (T.z (.ofNat (0 + i))).ev E.va with
              | some (D.a l), some (D.i n) => if 0 ≤ n then (match l[n.toNat]? with | some (Value.int _ m) => some (D.i m) | _ => none) else none
              | _, _ => none) = _
            rw [ht]
            simp only [T.ev, Nat.zero_add]
            rw [if_pos (show (0 : Int) ≤ Int.ofNat i from Int.natCast_nonneg i)]
            have : (Int.ofNat i).toNat = i := rfl
            rw [this]
            simp [vals, hi]
          · rw [if_neg c] at hv; cases hv
        cases hcn : cellNats cs with
        | none => rw [hcn] at h1; exact sym h1
        | some l =>
          rw [hcn] at h1
          rcases bif_holds h1 with ⟨_, h1⟩ | ⟨_, h1⟩
          · rw [listK_eq] at h1
            rw [cellNats_inv hcn] at y1
            obtain ⟨k1, k2⟩ := bytes_lt y1
            refine fin l (by rw [k2]; simp [vals]) k1 _ h1 (den_agg_of ?_)
            rw [intsF_eq]
            refine denL_of (by simp [vals]) fun i v hv => ?_
            rw [List.getElem?_map, Option.map_eq_some_iff] at hv
            obtain ⟨m, hm1, rfl⟩ := hv
            have hlt : m < 256 := outB_lt m (List.mem_of_getElem? hm1)
            exact ⟨_, by rw [den_int_of (k := .u8) hlt, sgn_nat .u8 hlt], by simp [vals, hm1]⟩
          · exact sym h1
      · cases hx1
    · cases hx1
  · exact hh.elim
end
end Sha
end Go.Sy
/-! The sum of nothing. -/
namespace Go.Sy
open Go.RowKit (Below)
namespace Sha
noncomputable def stNil : St := ⟨0, 0, .nil, .nil, ⟨.nil, .nil, [], 0, 0, 0, []⟩⟩
noncomputable def runNil (P : Program) (glob : Tr (Tr AV)) (fuel f : Nat) (mk : Tr (Tr AV) → Tr Con) : VC :=
  runX P (mk .nil) glob fuel (.call f [.slice none 0 (.k 0)]) (sumK 0) .nil .nil stNil
def NilAt (P : Program) (glob : Tr (Tr AV)) (f : FuncId) : Prop :=
  ∀ w, GlobOK glob w → Calls P f #[.slice none 0 0] w fun e w' => e = .returned (.agg (vals .u8 (sumN klN 0 [])).toArray) ∧ Below w.heap.size w w'
noncomputable def conSum3 (cx : Cx) (lensN lens : List Nat) : Con := fun args st K => match args with
  | [.slice none 0 (.k 0)] => listK .u8 (sumN klN 0 []) fun vs => K (.agg vs) st
  | args => conSum2 cx lensN lens args st K
section
variable {P : Program} {hm : P.follows .mixedOrders = true} {glob : Tr (Tr AV)} {w0 : World}
theorem sum_nil {fuel f : Nat} {mk : Tr (Tr AV) → Tr Con} (hfn : hasFn P f = true) (h : vcSame (runNil P glob fuel f mk) (sumVC 0) = true) (hcon : ∀ w ro, GlobOK glob w → ConOK P hm (mk ro) glob w (Θs klN 0) .nil ro) : NilAt P glob f := by
  intro w hg
  have h := vcSame_eq h
  unfold runNil at h
  rw [runX_eq] at h
  have hS : StRel (tabs P hm (mk .nil) glob .nil .nil) (· < w.heap.size) w E0 stNil w :=
    ⟨rfl, rfl, rfl, rfl, rfl, fun _ h => h, .refl _ _, fun k p h => by simp at h, fun k b h => by simp [stNil] at h, fun k b h => by simp [stNil] at h, fun k1 k2 b1 b2 id1 sh1 id2 sh2 h => by simp [stNil] at h, fun f l h => by simp [stNil] at h,
     fun k b h => by simp [stNil] at h, fun k b h => by simp [stNil] at h, fun k1 k2 o1 o2 p h => by simp [stNil] at h, fun k o h => by simp [stNil] at h, fun c hc => (by cases hc), fun k b p h => by simp [stNil] at h, fun f l h => by simp [stNil] at h, ⟨fun i t h => by simp [tabs, cxWith] at h, fun c hc => (by cases hc)⟩⟩
  have hargs : denL E0 [.slice none 0 (.k 0)] = some [.slice none 0 0] := by simp [denL, AV.den]
  have hh : (run (cxWith P (mk .nil) glob .nil .nil) fuel (.call f [.slice none 0 (.k 0)]) stNil (sumK 0)).holds (Θs klN 0) E0.va [] := by
    rw [h]
    exact pvc_holds (l := []) rfl (blks 0) h0N ([] ++ tailN 0) _ _ 0 E0.va (pad_len rfl) rfl (by decide) (evL_lit _ _) (evL_append (da := ivs []) rfl (evL_lit _ _)) rfl rfl
  refine (calls_of_runE (X := tabs P hm (mk .nil) glob .nil .nil) (cxOf_ok P hm (mk .nil) hg) (cxOf_fns (hcon w .nil hg)) (R := []) hS hargs hh hfn).mono fun e w' ⟨v, he, ho⟩ => ?_
  subst he
  obtain ⟨v', st', E', R', _, h2, h3, h4, _, h6⟩ := ho
  refine ⟨?_, Kept.below h4.kept⟩
  unfold sumK at h2
  split at h2
  · rename_i lo st e
    cases e
    obtain ⟨ts, hts, h2⟩ := vbind_inv h2
    obtain ⟨ys, hys, rfl⟩ := den_agg h6
    obtain ⟨ns, n1, rfl, _⟩ := numT_inv hts hys
    obtain ⟨d, hd, l2, e1, e2⟩ := h2 _ (List.mem_singleton_self _)
    have hd : evL E'.va ([] ++ ts) = some d := hd
    rw [List.nil_append, n1] at hd
    cases hd
    have el : l2 = [] := List.eq_nil_of_length_eq_zero e1
    subst el
    have e2 : ns.map D.i = ivs (sumN klN 0 []) := e2
    rw [zs_ivs e2, vals_zs]
  · exact h2.elim
theorem sum3_at {Θ : Pred} {ls : Tr LSpec} {ro : Tr (Tr AV)} {cx : Cx} (hcx : cx.glob = glob) (hcr : cx.ro = ro) {f : FuncId} {lensN lens : List Nat} (hg : GlobOK glob w0) (hfn : hasFn P f = true) (hn : NilAt P glob f) (hp : ∀ n ∈ lens, BytesAt P glob f n (sumN klN n)) : ConAt P hm glob w0 Θ ls ro f (conSum3 cx lensN lens) := by
  intro con args st k E R w xs hS hx hh
  unfold conSum3 at hh
  split at hh
  · rw [listK_eq] at hh
    have hxs : xs = [.slice none 0 0] := by
      have : denL E [.slice none 0 (.k 0)] = some [.slice none 0 0] := by simp [denL, AV.den]
      rw [this] at hx; exact (Option.some.inj hx).symm
    subst hxs
    obtain ⟨fn, g1, g2, g3⟩ := hasFn_inv hfn
    rw [callFunc_enter (P := P) g1 g2 g3]
    show CallsIn (FW none) 0 P f _ w _
    refine (callsIn_wide.2 (hn w (hg.kept hS.kept))).mono fun e w' ⟨he, hb⟩ => ?_
    subst he
    refine ⟨_, st, E, R, List.prefix_rfl, hh, .refl E, hS.grown (Kept.of_below hb), .refl E st, den_agg_of ?_⟩
    rw [intsF_eq]
    refine denL_of (by simp [vals]) fun i v hv => ?_
    rw [List.getElem?_map, Option.map_eq_some_iff] at hv
    obtain ⟨m, hm1, rfl⟩ := hv
    have hlt : m < 256 := outB_lt m (List.mem_of_getElem? hm1)
    exact ⟨_, by rw [den_int_of (k := .u8) hlt, sgn_nat .u8 hlt], by simp [vals, hm1]⟩
  · exact sum2_at hcx hcr hg hfn hp con hS hx hh
/-- Sums of bytes of several numbers. -/
def BAll (P : Program) (glob : Tr (Tr AV)) (f : FuncId) (l : List Nat) : Prop := ∀ n ∈ l, BytesAt P glob f n (sumN klN n)
theorem ball_nil {f : FuncId} : BAll P glob f [] := fun n h => by cases h
theorem ball_cons {f n : FuncId} {l : List Nat} (h : BytesAt P glob f n (sumN klN n)) (t : BAll P glob f l) : BAll P glob f (n :: l) := fun m hm => by
  rcases List.mem_cons.1 hm with rfl | hm
  · exact h
  · exact t m hm
theorem ball_app {f : FuncId} {l m : List Nat} (h : BAll P glob f l) (t : BAll P glob f m) : BAll P glob f (l ++ m) := fun n hn => by
  rcases List.mem_append.1 hn with hn | hn
  · exact h n hn
  · exact t n hn
end
end Sha
end Go.Sy
/-! Contracts of calls from states that are written out: a long run in parts. -/
namespace Go.Sy
noncomputable def sameV : AV → AV → Bool
  | .tuple a, .tuple b => sameL a b
  | a, b => AV.same a b
theorem sameV_eq {a b : AV} (h : sameV a b = true) : a = b := by
  unfold sameV at h
  split at h
  · rw [sameL_eq h]
  · exact same_eq _ _ h
noncomputable def blkB (a b : Blk) : Bool := blkSame (some a) (some b)
noncomputable def obB (a b : Ob) : Bool := obSame (some a) (some b)
noncomputable def nilB {α : Type} : List α → List α → Bool
  | [], [] => true
  | _, _ => false
theorem nilB_eq {α : Type} {a b : List α} (h : nilB a b = true) : a = b := by
  unfold nilB at h
  split at h
  · rfl
  · cases h
noncomputable def stEq (s t : St) : Bool :=
  Nat.beq s.n t.n && (Nat.beq s.nc t.nc && (Nat.beq s.x.nz t.x.nz && (Nat.beq s.x.na t.x.na && (Nat.beq s.x.no t.x.no && (trSame blkB s.heap t.heap && (trSame leqL s.live t.live && (trSame obB s.x.objs t.x.objs && (trSame (trSame AV.same) s.x.sh t.x.sh && (nilB s.x.facts t.x.facts && nilB s.x.nm t.x.nm)))))))))
theorem stEq_eq {s t : St} (h : stEq s t = true) : s = t := by
  obtain ⟨n, nc, hp, lv, ⟨ob, sh, f, nz, na, no, nm⟩⟩ := s
  obtain ⟨n', nc', hp', lv', ⟨ob', sh', f', nz', na', no', nm'⟩⟩ := t
  simp only [stEq, Bool.and_eq_true, beq_iff, decide_eq_true_eq] at h
  obtain ⟨h1, h2, h3, h4, h5, h6, h7, h8, h9, h10, h11⟩ := h
  have g6 := trSame_eq (fun _ _ h => Option.some.inj (blkSame_eq h)) h6
  have g7 := trSame_eq (fun _ _ h => leqL_iff h) h7
  have g8 := trSame_eq (fun _ _ h => Option.some.inj (obSame_eq h)) h8
  have g9 := trSame_eq (fun _ _ h => trSame_eq same_eq h) h9
  rw [h1, h2, h3, h4, h5, g6, g7, g8, g9, nilB_eq h10, nilB_eq h11]
structure LitC where
  args : List AV
  pre : St
  v : AV
  post : St
noncomputable def litRK (l : LitC) : Res → VC
  | .val x s => bif_ (sameV x l.v && stEq s l.post) .ok .bad
  | _ => .bad
noncomputable def conLit (L : List LitC) : Con := fun args st k => List.rec (motive := fun _ => VC) .bad (fun l _ ih => bif_ (sameL args l.args && stEq st l.pre) (k l.v l.post) ih) L
theorem va_eq {ρ ρ' : Va} (h : ρ.Le ρ') (hz : ρ.z.length = ρ'.z.length) (ha : ρ.a.length = ρ'.a.length) : ρ' = ρ := by
  obtain ⟨z, a⟩ := ρ
  obtain ⟨z', a'⟩ := ρ'
  have e1 : z' = z := by
    apply List.ext_getElem hz.symm
    intro i h1 h2
    have := h.1 i z[i] (by simp [h2])
    simpa [h1] using this
  have e2 : a' = a := by
    apply List.ext_getElem ha.symm
    intro i h1 h2
    have := h.2 i a[i] (by simp [h2])
    simpa [h1] using this
  rw [e1, e2]
section
variable {P : Program} {hm : P.follows .mixedOrders = true} {glob : Tr (Tr AV)} {w0 : World}
theorem stRel_tabs {con con' : Tr Con} {ls ls' : Tr LSpec} {ro : Tr (Tr AV)} {K : Nat → Prop} {E : Env} {st : St} {w : World} (h : StRel (tabs P hm con glob ls ro) K w0 E st w) : StRel (tabs P hm con' glob ls' ro) K w0 E st w :=
  ⟨h.n_eq, h.c_eq, h.z_eq, h.a_eq, h.o_eq, h.klt, h.kept, h.ids, h.lt, h.blks, h.fams, h.livelt, h.lives, h.objs, h.oinj, h.apart, h.facts, h.famh, h.liveh, h.ext⟩
theorem lit_at {con1 : Tr Con} {ls1 : Tr LSpec} {Θ : Pred} {ls : Tr LSpec} {ro : Tr (Tr AV)} {f : FuncId} {L : List LitC} (hg : GlobOK glob w0) (hcon : ConOK P hm con1 glob w0 Θ ls1 ro)
    (h : ∀ l ∈ L, l.pre.x.nz = l.post.x.nz ∧ l.pre.x.na = l.post.x.na ∧ ∃ n, (runX P con1 glob n (.call f l.args) (litRK l) ls1 ro l.pre).triv = true) : ConAt P hm glob w0 Θ ls ro f (conLit L) := by
  intro con args st k E R w xs hS hx hh
  induction L with
  | nil => exact hh.elim
  | cons l L ih =>
    have hh : (bif_ (sameL args l.args && stEq st l.pre) (k l.v l.post) (conLit L args st k) : VC).holds Θ E.va R := hh
    cases hb : sameL args l.args && stEq st l.pre with
    | false => rw [hb] at hh; exact ih (fun l hl => h l (List.mem_cons_of_mem _ hl)) hh
    | true =>
      rw [hb] at hh
      have hk : (k l.v l.post).holds Θ E.va R := hh
      rw [Bool.and_eq_true] at hb
      have e1 := sameL_eq hb.1
      have e2 := stEq_eq hb.2
      subst e1 e2
      obtain ⟨hz, ha, n, ht⟩ := h l (List.mem_cons_self ..)
      rw [runX_eq] at ht
      have hr := (run_ok (X := tabs P hm con1 glob ls1 ro) (cxOf_ok P hm con1 hg) (cxOf_fns hcon) n).call (stRel_tabs hS) hx (R := R) (triv_holds ht)
      refine OpRes.mono (fun y w' ho => ?_) hr
      obtain ⟨v', st', E', R', hR, h2, h3, h4, h5, h6⟩ := ho
      have h2 : (bif_ (sameV v' l.v && stEq st' l.post) .ok .bad : VC).holds Θ E'.va R' := h2
      cases hb2 : sameV v' l.v && stEq st' l.post with
      | false => rw [hb2] at h2; exact h2.elim
      | true =>
        rw [Bool.and_eq_true] at hb2
        have e3 := sameV_eq hb2.1
        have e4 := stEq_eq hb2.2
        subst e3 e4
        have hva : E'.va = E.va := va_eq h3.va (by have := hS.z_eq; have := h4.z_eq; show E.z.length = E'.z.length; omega) (by have := hS.a_eq; have := h4.a_eq; show E.a.length = E'.a.length; omega)
        exact ⟨_, _, E', R, List.prefix_rfl, by rw [hva]; exact hk, h3, stRel_tabs h4, h5, h6⟩
end
end Go.Sy
/-! Contracts of calls from states that are written out, what is not needed any more dropped. -/
namespace Go.Sy
noncomputable def trSub {α : Type} (f : α → α → Bool) : Tr α → Tr α → Bool
  | .nil, _ => true
  | .node none a b, u => trSub f a u.lft && trSub f b u.rgt
  | .node (some x) a b, u => Option.rec false (fun y => f x y) u.val && (trSub f a u.lft && trSub f b u.rgt)
theorem trSub_getP {α : Type} {f : α → α → Bool} : ∀ {t u : Tr α} (p : Px) {x : α}, trSub f t u = true → Tr.getP p t = some x → ∃ y, Tr.getP p u = some y ∧ f x y = true := by
  intro t
  induction t with
  | nil => intro u p x _ h; rw [Tr.getP_nil] at h; cases h
  | node v l r ih1 ih2 =>
    intro u p x h hx
    have hs : (∀ y, v = some y → ∃ z, u.val = some z ∧ f y z = true) ∧ trSub f l u.lft = true ∧ trSub f r u.rgt = true := by
      cases v with
      | none =>
        simp only [trSub, Bool.and_eq_true] at h
        exact ⟨fun y e => (by cases e), h.1, h.2⟩
      | some w =>
        simp only [trSub, Bool.and_eq_true] at h
        refine ⟨fun y e => ?_, h.2.1, h.2.2⟩
        cases e
        cases hv : u.val with
        | none => rw [hv] at h; cases h.1
        | some z => rw [hv] at h; exact ⟨z, rfl, h.1⟩
    cases p with
    | h =>
      rw [Tr.getP_h] at hx ⊢
      exact hs.1 x hx
    | o q =>
      rw [Tr.getP_o] at hx ⊢
      exact ih1 q hs.2.1 hx
    | i q =>
      rw [Tr.getP_i] at hx ⊢
      exact ih2 q hs.2.2 hx
theorem trSub_get {α : Type} {f : α → α → Bool} (hf : ∀ a b, f a b = true → a = b) {t u : Tr α} {k : Nat} {x : α} (h : trSub f t u = true) (hx : t.get k = some x) : u.get k = some x := by
  obtain ⟨y, h1, h2⟩ := trSub_getP (pth k) h hx
  rw [hf _ _ h2]
  exact h1
noncomputable def trAll {α : Type} (p : α → Bool) : Tr α → Bool
  | .nil => true
  | .node none a b => trAll p a && trAll p b
  | .node (some x) a b => p x && (trAll p a && trAll p b)
theorem trAll_getP {α : Type} {f : α → Bool} : ∀ {t : Tr α} (p : Px) {x : α}, trAll f t = true → Tr.getP p t = some x → f x = true := by
  intro t
  induction t with
  | nil => intro p x _ h; rw [Tr.getP_nil] at h; cases h
  | node v l r ih1 ih2 =>
    intro p x h hx
    have hs : (∀ y, v = some y → f y = true) ∧ trAll f l = true ∧ trAll f r = true := by
      cases v with
      | none =>
        simp only [trAll, Bool.and_eq_true] at h
        exact ⟨fun y e => (by cases e), h.1, h.2⟩
      | some w =>
        simp only [trAll, Bool.and_eq_true] at h
        exact ⟨fun y e => (by cases e; exact h.1), h.2.1, h.2.2⟩
    cases p with
    | h => exact hs.1 x hx
    | o q => exact ih1 q hs.2.1 hx
    | i q => exact ih2 q hs.2.2 hx
/-- Of the keys below m, what the first tree holds, the second one holds. -/
noncomputable def trOld {α : Type} (m : Nat) (f : α → α → Bool) : Tr α → Nat → Nat → Tr α → Bool
  | .nil, _, _, _ => true
  | .node v l r, a, b, t => (Option.rec true (fun x => Bool.rec true (Option.rec false (fun y => f x y) t.val) (Nat.blt b m)) v : Bool) && (trOld m f l (Nat.add a a) (Nat.add a b) t.lft && trOld m f r (Nat.add a a) (Nat.add a (Nat.add a b)) t.rgt)
theorem trOld_getP {α : Type} {m : Nat} {f : α → α → Bool} : ∀ {s : Tr α} {a b : Nat} {t : Tr α} (p : Px) {x : α}, trOld m f s a b t = true → Tr.getP p s = some x → a * p.num + b < m → ∃ y, Tr.getP p t = some y ∧ f x y = true := by
  intro s
  induction s with
  | nil => intro a b t p x _ h; rw [Tr.getP_nil] at h; cases h
  | node v l r ih1 ih2 =>
    intro a b t p x h hx hm
    simp only [trOld, Bool.and_eq_true] at h
    obtain ⟨h1, h2, h3⟩ := h
    cases p with
    | h =>
      rw [Tr.getP_h] at hx ⊢
      have hx : v = some x := hx
      subst hx
      have hb : Nat.blt b m = true := by
        have : a * Px.num .h + b = b := by simp [Px.num]
        rw [this] at hm
        simp [Nat.blt_eq, hm]
      have h1 : (Bool.rec true (Option.rec false (fun y => f x y) t.val) (Nat.blt b m) : Bool) = true := h1
      rw [hb] at h1
      cases hv : t.val with
      | none => rw [hv] at h1; cases h1
      | some y => rw [hv] at h1; exact ⟨y, rfl, h1⟩
    | o q =>
      rw [Tr.getP_o] at hx ⊢
      refine ih1 q h2 hx ?_
      have e : a * Px.num (.o q) + b = Nat.add a a * q.num + Nat.add a b := by
        simp only [Px.num, Nat.add_eq]; rw [Nat.mul_add, Nat.add_mul, Nat.mul_comm 2, ← Nat.mul_assoc]; omega
      omega
    | i q =>
      rw [Tr.getP_i] at hx ⊢
      refine ih2 q h3 hx ?_
      have e : a * Px.num (.i q) + b = Nat.add a a * q.num + Nat.add a (Nat.add a b) := by
        simp only [Px.num, Nat.add_eq]; rw [Nat.mul_add, Nat.add_mul, Nat.mul_comm 2, ← Nat.mul_assoc]; omega
      omega
theorem trOld_get {α : Type} {m : Nat} {f : α → α → Bool} (hf : ∀ a b, f a b = true → a = b) {s t : Tr α} (hs : ∀ k x, t.get k = some x → ∃ y, s.get k = some y) (h : trOld m f s 1 0 t = true) {k : Nat} (hk : k < m) : t.get k = s.get k := by
  cases e : s.get k with
  | none =>
    cases e' : t.get k with
    | none => rfl
    | some y => obtain ⟨z, hz⟩ := hs k y e'; rw [e] at hz; cases hz
  | some x =>
    obtain ⟨y, h1, h2⟩ := trOld_getP (pth k) h e (by rw [pth_num]; omega)
    have h1 : t.get k = some y := h1
    rw [h1, hf _ _ h2]
theorem trOld_has {α : Type} {m : Nat} {s t : Tr α} (hs : ∀ k x, t.get k = some x → s.get k = some x) (h : trOld m (fun _ _ => true) s 1 0 t = true) {k : Nat} (hk : k < m) : t.get k = s.get k := by
  cases e' : t.get k with
  | some y => rw [hs k y e']
  | none =>
    cases e : s.get k with
    | none => rfl
    | some x =>
      obtain ⟨y, h1, _⟩ := trOld_getP (pth k) h e (by rw [pth_num]; omega)
      have h1 : t.get k = some y := h1
      rw [e'] at h1; cases h1
noncomputable def subL (a b : List Nat) : Bool := List.rec (motive := fun _ => Bool) true (fun j _ ih => memN j b && ih) a
theorem subL_mem {b : List Nat} : ∀ {a : List Nat}, subL a b = true → ∀ j ∈ a, j ∈ b
  | [], _, j, hj => by cases hj
  | i :: a, h, j, hj => by
    have h : (memN i b && subL a b) = true := h
    rw [Bool.and_eq_true] at h
    rcases List.mem_cons.1 hj with rfl | hj
    · exact memN_iff'.1 h.1
    · exact subL_mem h.2 j hj
noncomputable def keptL (t : Tr Blk) (a b : List Nat) : Bool := List.rec (motive := fun _ => Bool) true (fun j _ ih => Option.rec true (fun _ => memN j b) (t.get j) && ih) a
theorem keptL_mem {t : Tr Blk} {b : List Nat} : ∀ {a : List Nat}, keptL t a b = true → ∀ j ∈ a, ∀ x, t.get j = some x → j ∈ b
  | [], _, j, hj, _, _ => by cases hj
  | i :: a, h, j, hj, x, hx => by
    have h : ((Option.rec true (fun _ => memN i b) (t.get i) : Bool) && keptL t a b) = true := h
    rw [Bool.and_eq_true] at h
    rcases List.mem_cons.1 hj with rfl | hj
    · have h1 := h.1
      rw [hx] at h1
      exact memN_iff'.1 h1
    · exact keptL_mem h.2 j hj x hx
noncomputable def famB (t s : St) (b : Blk) : Bool := match t.live.get b.fam, s.live.get b.fam with
  | none, none => true
  | some l, some l' => keptL t.heap l' l
  | _, _ => false
/-- The state t is the state s, with things dropped that were made after the first m. -/
noncomputable def subSt (m : Nat) (t s : St) : Bool :=
  Nat.beq t.n s.n && (Nat.beq t.nc s.nc && (Nat.beq t.x.nz s.x.nz && (Nat.beq t.x.na s.x.na && (Nat.beq t.x.no s.x.no && (nilB t.x.facts s.x.facts && (nilB t.x.nm s.x.nm && (trSub blkB t.heap s.heap && (trSub subL t.live s.live && (trSub obB t.x.objs s.x.objs &&
    (trAll (famB t s) t.heap && (trOld m (fun _ _ => true) s.heap 1 0 t.heap && (trOld m (fun _ _ => true) s.x.objs 1 0 t.x.objs && trOld m leqL s.live 1 0 t.live))))))))))))
structure SubSt (m : Nat) (t s : St) : Prop where
  n : t.n = s.n
  nc : t.nc = s.nc
  nz : t.x.nz = s.x.nz
  na : t.x.na = s.x.na
  no : t.x.no = s.x.no
  facts : t.x.facts = s.x.facts
  nm : t.x.nm = s.x.nm
  heap : ∀ k b, t.heap.get k = some b → s.heap.get k = some b
  live : ∀ k l, t.live.get k = some l → ∃ l', s.live.get k = some l' ∧ ∀ j ∈ l, j ∈ l'
  objs : ∀ k b, t.x.objs.get k = some b → s.x.objs.get k = some b
  fam : ∀ k b, t.heap.get k = some b → ∀ k' b', t.heap.get k' = some b' → k' ∈ famOf s b k → k' ∈ famOf t b k
  old : ∀ k, k < m → t.heap.get k = s.heap.get k ∧ t.x.objs.get k = s.x.objs.get k ∧ t.live.get k = s.live.get k
theorem subSt_spec {m : Nat} {t s : St} (h : subSt m t s = true) : SubSt m t s := by
  simp only [subSt, Bool.and_eq_true, beq_iff, decide_eq_true_eq] at h
  obtain ⟨h1, h2, h3, h4, h5, h6, h7, h8, h9, h10, h11, h12, h13, h14⟩ := h
  refine ⟨h1, h2, h3, h4, h5, nilB_eq h6, nilB_eq h7, fun k b hb => ?_, fun k b hb => ?_, fun k b hb => ?_, fun k b hb k' b' hb' hm => ?_, fun k hk => ?_⟩
  · exact trSub_get (fun _ _ h => Option.some.inj (blkSame_eq h)) h8 hb
  · obtain ⟨y, g1, g2⟩ := trSub_getP (pth k) h9 hb
    exact ⟨y, g1, subL_mem g2⟩
  · exact trSub_get (fun _ _ h => Option.some.inj (obSame_eq h)) h10 hb
  · have h := trAll_getP (pth k) h11 hb
    unfold famB at h
    unfold famOf at hm ⊢
    split at h
    · rename_i e1 e2
      rw [e2] at hm
      rw [e1]
      exact hm
    · rename_i l l' e1 e2
      rw [e2] at hm
      rw [e1]
      exact keptL_mem h k' hm b' hb'
    · cases h
  · exact ⟨trOld_has (fun k b hb => trSub_get (fun _ _ h => Option.some.inj (blkSame_eq h)) h8 hb) h12 hk, trOld_has (fun k b hb => trSub_get (fun _ _ h => Option.some.inj (obSame_eq h)) h10 hb) h13 hk,
      trOld_get (fun _ _ h => leqL_iff h) (fun k b hb => by obtain ⟨y, g1, _⟩ := trSub_getP (pth k) h9 hb; exact ⟨y, g1⟩) h14 hk⟩
theorem StRel.sub {X : Tabs} {K : Nat → Prop} {w0 : World} {E : Env} {s t : St} {w : World} {m : Nat} (h : StRel X K w0 E s w) (hs : SubSt m t s) : StRel X K w0 E t w := by
  refine ⟨h.n_eq.trans hs.n.symm, h.c_eq.trans hs.nc.symm, h.z_eq.trans hs.nz.symm, h.a_eq.trans hs.na.symm, h.o_eq.trans hs.no.symm, h.klt, h.kept, h.ids, fun k b hb => ?_, fun k b hb => h.blks k b (hs.heap k b hb), fun k1 k2 b1 b2 id1 sh1 id2 sh2 e1 e2 => h.fams k1 k2 b1 b2 id1 sh1 id2 sh2 (hs.heap _ _ e1) (hs.heap _ _ e2), fun f l hl => ?_,
    fun k b hb k' b' hb' he => ?_, fun k o ho => ?_, fun k1 k2 o1 o2 p e1 e2 => h.oinj k1 k2 o1 o2 p (hs.objs _ _ e1) (hs.objs _ _ e2), fun k o ho => ?_, ?_, fun k b p hb => h.famh k b p (hs.heap k b hb), fun f l hl => ?_, ?_⟩
  · rw [hs.n]; exact h.lt k b (hs.heap k b hb)
  · obtain ⟨l', g, _⟩ := hs.live f l hl
    rw [hs.n]; exact h.livelt f l' g
  · exact hs.fam k b hb k' b' hb' (h.lives k b (hs.heap k b hb) k' b' (hs.heap k' b' hb') he)
  · rw [hs.n]; exact h.objs k o (hs.objs k o ho)
  · have := h.apart k o (hs.objs k o ho)
    cases e : t.heap.get k with
    | none => rfl
    | some b => rw [hs.heap k b e] at this; cases this
  · rw [hs.facts]; exact h.facts
  · obtain ⟨l', g, g'⟩ := hs.live f l hl
    exact ⟨(h.liveh f l' g).1, fun j hj => (h.liveh f l' g).2 j (g' j hj)⟩
  · rw [hs.nm]; exact h.ext
/-- The value is the one written out; the state is the one written out, and more. -/
noncomputable def litSK (l : LitC) : Res → VC
  | .val x s => bif_ (sameV x l.v && subSt l.pre.n l.post s) .ok .bad
  | _ => .bad
section
variable {P : Program} {hm : P.follows .mixedOrders = true} {glob : Tr (Tr AV)} {w0 : World}
theorem litS_at {con1 : Tr Con} {ls1 : Tr LSpec} {Θ : Pred} {ls : Tr LSpec} {ro : Tr (Tr AV)} {f : FuncId} {L : List LitC} (hg : GlobOK glob w0) (hcon : ConOK P hm con1 glob w0 Θ ls1 ro)
    (h : ∀ l ∈ L, l.pre.x.nz = l.post.x.nz ∧ l.pre.x.na = l.post.x.na ∧ ∃ n, (runX P con1 glob n (.call f l.args) (litSK l) ls1 ro l.pre).triv = true) : ConAt P hm glob w0 Θ ls ro f (conLit L) := by
  intro con args st k E R w xs hS hx hh
  induction L with
  | nil => exact hh.elim
  | cons l L ih =>
    have hh : (bif_ (sameL args l.args && stEq st l.pre) (k l.v l.post) (conLit L args st k) : VC).holds Θ E.va R := hh
    cases hb : sameL args l.args && stEq st l.pre with
    | false => rw [hb] at hh; exact ih (fun l hl => h l (List.mem_cons_of_mem _ hl)) hh
    | true =>
      rw [hb] at hh
      have hk : (k l.v l.post).holds Θ E.va R := hh
      rw [Bool.and_eq_true] at hb
      have e1 := sameL_eq hb.1
      have e2 := stEq_eq hb.2
      subst e1 e2
      obtain ⟨hz, ha, n, ht⟩ := h l (List.mem_cons_self ..)
      rw [runX_eq] at ht
      have hr := (run_ok (X := tabs P hm con1 glob ls1 ro) (cxOf_ok P hm con1 hg) (cxOf_fns hcon) n).call (stRel_tabs hS) hx (R := R) (triv_holds ht)
      refine OpRes.mono (fun y w' ho => ?_) hr
      obtain ⟨v', st', E', R', hR, h2, h3, h4, h5, h6⟩ := ho
      have h2 : (bif_ (sameV v' l.v && subSt l.pre.n l.post st') .ok .bad : VC).holds Θ E'.va R' := h2
      cases hb2 : sameV v' l.v && subSt l.pre.n l.post st' with
      | false => rw [hb2] at h2; exact h2.elim
      | true =>
        rw [Bool.and_eq_true] at hb2
        have e3 := sameV_eq hb2.1
        have hs := subSt_spec hb2.2
        subst e3
        have hva : E'.va = E.va := va_eq h3.va (by have := hS.z_eq; have := h4.z_eq; have := hs.nz; show E.z.length = E'.z.length; omega) (by have := hS.a_eq; have := h4.a_eq; have := hs.na; show E.a.length = E'.a.length; omega)
        refine ⟨_, _, E', R, List.prefix_rfl, by rw [hva]; exact hk, h3, stRel_tabs (h4.sub hs), fun j hj => ?_, h6⟩
        obtain ⟨g1, g2, g3, g4⟩ := h5 j hj
        have hlt : j < l.pre.n := by rw [← hS.n_eq]; exact (List.getElem?_eq_some_iff.1 hj).1
        obtain ⟨o1, o2, o3⟩ := hs.old j hlt
        exact ⟨g1, o1.trans g2, o2.trans g3, o3.trans g4⟩
end
end Go.Sy
