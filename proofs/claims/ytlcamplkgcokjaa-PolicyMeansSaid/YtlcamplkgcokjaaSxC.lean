import Derived.Test.YtlcamplkgcokjaaSxZ
/-! What an operation hands on does not hang on who takes it; what only looks at its operands. -/
namespace Go.Sx

def CPS (F : (β : Type) → Kt β → Option β) : Prop := (∀ β k, F β k = none) ∨ ∃ v st', ∀ β k, F β k = k v st'
def MOV (F : St → (β : Type) → Kt β → Option β) : Prop := (∀ st β k, F st β k = none) ∨ ∃ v, ∀ st β k, F st β k = k v st

theorem MOV.cps {F : St → (β : Type) → Kt β → Option β} (h : MOV F) (st : St) : CPS (F st) := by
  rcases h with h | ⟨v, h⟩
  · exact .inl fun β k => h st β k
  · exact .inr ⟨v, st, fun β k => h st β k⟩

theorem cps_none : CPS (fun _ _ => none) := .inl fun _ _ => rfl
theorem cps_k (v : AV) (st : St) : CPS (fun _ k => k v st) := .inr ⟨v, st, fun _ _ => rfl⟩
theorem cps_obind {α : Type} (o : Option α) {G : α → (β : Type) → Kt β → Option β} (h : ∀ x, CPS (G x)) : CPS (fun β k => obind o fun x => G x β k) := by
  cases o with
  | none => exact cps_none
  | some x => exact h x
theorem cps_bif (b : Bool) {G : (β : Type) → Kt β → Option β} (h : CPS G) : CPS (fun β k => bif_ b (G β k) none) := by
  cases b
  · exact cps_none
  · exact h
theorem cps_bif2 (b : Bool) {F G : (β : Type) → Kt β → Option β} (h1 : CPS F) (h2 : CPS G) : CPS (fun β k => bif_ b (F β k) (G β k)) := by
  cases b
  · exact h2
  · exact h1
theorem cps_pos (n : Nat) {G : (β : Type) → Kt β → Option β} (h : CPS G) : CPS (fun β k => posSize n (G β k)) := by
  cases n
  · exact cps_none
  · exact h
theorem cps_out (st : St) (o : Option AV) : CPS (fun _ k => out st k o) := by
  cases o with
  | none => exact cps_none
  | some v => exact cps_k v st
theorem cps_newBlk (st : St) (cs : List AV) (cv es : Nat) {G : Nat → St → (β : Type) → Kt β → Option β} (h : ∀ n st, CPS (G n st)) : CPS (fun β k => newBlk st cs (fun n st => G n st β k) cv es) := by
  have e : (fun (β : Type) (k : Kt β) => newBlk st cs (fun n st => G n st β k) cv es) = fun β k => G st.n ⟨Nat.succ st.n, st.nc, st.heap.set st.n (some ⟨lenL cs, puts cs 0 .nil, st.n, cv, es⟩), st.live⟩ β k := by
    funext β k
    simp only [newBlk, putsK_eq, Tr.setK_eq]
  rw [e]
  exact h _ _
theorem cps_storeCells (st : St) (b off : Nat) (vs : List AV) {G : St → (β : Type) → Kt β → Option β} (h : ∀ st, CPS (G st)) : CPS (fun β k => storeCells st b off vs (fun st => G st β k)) := by
  unfold storeCells
  refine cps_obind _ fun blk => cps_bif _ ?_
  simp only [putsK_eq]
  cases st.live.get blk.fam with
  | none => simp only [Tr.setK_eq]; exact h _
  | some l => simp only [Tr.setK_eq]; exact h _

theorem mov_none : MOV (fun _ _ _ => none) := .inl fun _ _ _ => rfl
theorem mov_k (v : AV) : MOV (fun st _ k => k v st) := .inr ⟨v, fun _ _ _ => rfl⟩
theorem mov_obind {α : Type} (o : Option α) {G : α → St → (β : Type) → Kt β → Option β} (h : ∀ x, MOV (G x)) : MOV (fun st β k => obind o fun x => G x st β k) := by
  cases o with
  | none => exact mov_none
  | some x => exact h x
theorem mov_bif (b : Bool) {G : St → (β : Type) → Kt β → Option β} (h : MOV G) : MOV (fun st β k => bif_ b (G st β k) none) := by
  cases b
  · exact mov_none
  · exact h
theorem mov_pos (n : Nat) {G : St → (β : Type) → Kt β → Option β} (h : MOV G) : MOV (fun st β k => posSize n (G st β k)) := by
  cases n
  · exact mov_none
  · exact h
theorem mov_out (o : Option AV) : MOV (fun st _ k => out st k o) := by
  cases o with
  | none => exact mov_none
  | some v => exact mov_k v

section
variable (cx : Cx)
theorem xPick_mov (tm : Tm) (a b : Operand) (v : AV) : MOV (fun st _ k => xPick tm st k a b v) := by
  cases v <;> first | exact mov_none | skip
  rename_i c
  cases c <;> exact mov_out _
theorem xBuild_mov (ps : List (Nat × AV)) (z : List AV) (d : TypeDesc) : MOV (fun st _ k => xBuild cx st k ps z d) := by
  cases d <;> simp only [xBuild] <;> (repeat' first | exact mov_none | exact mov_k _ | exact mov_out _ | refine mov_obind _ fun _ => ?_ | refine mov_bif _ ?_ | refine mov_pos _ ?_)
theorem xBuildSlice_cps (st : St) (n : Nat) (ps : List (Nat × AV)) (d : TypeDesc) : CPS (fun _ k => xBuildSlice cx st k n ps d) := by
  cases d <;> simp only [xBuildSlice] <;> (repeat' first | exact cps_none | exact cps_k _ _ | exact cps_out _ _ | refine cps_obind _ fun _ => ?_ | refine cps_bif _ ?_ | refine cps_pos _ ?_ | refine cps_newBlk _ _ _ _ fun _ _ => ?_)
theorem xNilCheck_mov (v : AV) : MOV (fun st _ k => xNilCheck st k v) := by
  unfold xNilCheck
  split <;> (repeat' first | exact mov_none | exact mov_k _ | exact mov_out _ | refine mov_obind _ fun _ => ?_ | refine mov_bif _ ?_ | refine mov_pos _ ?_)
theorem xFieldAddr_mov (f : Nat) (a : AAddr) (fs : List Field) : MOV (fun st _ k => xFieldAddr cx st k f a fs) := by
  unfold xFieldAddr; (repeat' first | exact mov_none | exact mov_k _ | exact mov_out _ | refine mov_obind _ fun _ => ?_ | refine mov_bif _ ?_ | refine mov_pos _ ?_)
theorem elemAddr_mov (e : TypeId) (a : AAddr) (i n : Nat) : MOV (fun st _ k => elemAddr cx st k e a i n) := by
  unfold elemAddr; (repeat' first | exact mov_none | exact mov_k _ | exact mov_out _ | refine mov_obind _ fun _ => ?_ | refine mov_bif _ ?_ | refine mov_pos _ ?_)
theorem xIndexAddr_mov (i : Nat) (x : AV) (d : TypeDesc) : MOV (fun st _ k => xIndexAddr cx st k i x d) := by
  cases d <;> simp only [xIndexAddr] <;> first | ((repeat' first | exact mov_none | exact mov_k _ | exact mov_out _ | refine mov_obind _ fun _ => ?_ | refine mov_bif _ ?_ | refine mov_pos _ ?_); done) | skip
  · split
    · exact elemAddr_mov cx _ _ _ _
    · exact mov_none
theorem xIndex_mov (i : Nat) (x : AV) (d : TypeDesc) : MOV (fun st _ k => xIndex cx st k i x d) := by
  cases d <;> simp only [xIndex] <;> (repeat' first | exact mov_none | exact mov_k _ | exact mov_out _ | refine mov_obind _ fun _ => ?_ | refine mov_bif _ ?_ | refine mov_pos _ ?_)
theorem xMakeSlice_cps (st : St) (l c : Nat) (d : TypeDesc) : CPS (fun _ k => xMakeSlice cx st k l c d) := by
  cases d <;> simp only [xMakeSlice] <;> (repeat' first | exact cps_none | exact cps_k _ _ | exact cps_out _ _ | refine cps_obind _ fun _ => ?_ | refine cps_bif _ ?_ | refine cps_pos _ ?_ | refine cps_newBlk _ _ _ _ fun _ _ => ?_)
theorem cutPtr_mov (e : TypeId) (a : AAddr) (n l h : Nat) : MOV (fun st _ k => cutPtr cx st k e a n l h) := by
  unfold cutPtr; (repeat' first | exact mov_none | exact mov_k _ | exact mov_out _ | refine mov_obind _ fun _ => ?_ | refine mov_bif _ ?_ | refine mov_pos _ ?_)
theorem cutK_mov (e : TypeId) (a : Option AAddr) (n l h : Nat) : MOV (fun st _ k => cutK cx st k e a n l h) := by
  unfold cutK; (repeat' first | exact mov_none | exact mov_k _ | exact mov_out _ | refine mov_obind _ fun _ => ?_ | refine mov_bif _ ?_ | refine mov_pos _ ?_)
theorem cutU_mov (e : TypeId) (a : Option AAddr) (n i s l h : Nat) : MOV (fun st _ k => cutU cx st k e a n i s l h) := by
  unfold cutU; (repeat' first | exact mov_none | exact mov_k _ | exact mov_out _ | refine mov_obind _ fun _ => ?_ | refine mov_bif _ ?_ | refine mov_pos _ ?_)
theorem xSlice_mov (tm : Tm) (x : AV) (lo hi : Option Operand) (d : TypeDesc) : MOV (fun st _ k => xSlice cx tm st k x lo hi d) := by
  cases d <;> simp only [xSlice] <;> first | ((repeat' first | exact mov_none | exact mov_k _ | exact mov_out _ | refine mov_obind _ fun _ => ?_ | refine mov_bif _ ?_ | refine mov_pos _ ?_); done) | skip
  · split
    · (repeat' first | exact mov_none | exact mov_k _ | exact mov_out _ | refine mov_obind _ fun _ => ?_ | refine mov_bif _ ?_ | refine mov_pos _ ?_)
    · (repeat' first | exact mov_none | exact mov_k _ | exact mov_out _ | refine mov_obind _ fun _ => ?_ | refine mov_bif _ ?_ | refine mov_pos _ ?_)
    · (repeat' first | exact mov_none | exact mov_k _ | exact mov_out _ | refine mov_obind _ fun _ => ?_ | refine mov_bif _ ?_ | refine mov_pos _ ?_)

theorem storeVar_cps (st : St) (t : TypeId) (a : AAddr) (v : AV) : CPS (fun _ k => xStore cx st k t a v) := by
  obtain ⟨b, off⟩ := a
  unfold xStore storeVar
  cases b with
  | g _ => exact cps_none
  | r n => refine cps_obind _ fun _ => cps_bif _ (cps_storeCells _ _ _ _ fun st => cps_k _ st)

def isLoad : Op → Bool
  | .load _ _ => true
  | _ => false

theorem xop_mov {op : Op} (he : isEff op = false) (hl : isLoad op = false) (tm : Tm) : MOV (fun st _ k => xop op cx tm st k) := by
  cases op <;> first | cases he; done | cases hl; done | skip
  all_goals simp only [xop]
  case pick => exact mov_obind _ fun _ => xPick_mov _ _ _ _
  case build => exact mov_obind _ fun _ => mov_obind _ fun _ => mov_obind _ fun _ => xBuild_mov cx _ _ _
  case nilCheck => exact mov_obind _ fun _ => xNilCheck_mov _
  case fieldAddr => exact mov_obind _ fun _ => mov_obind _ fun _ => mov_obind _ fun _ => mov_obind _ fun _ => xFieldAddr_mov cx _ _ _
  case indexAddr => exact mov_obind _ fun _ => mov_obind _ fun _ => mov_obind _ fun _ => mov_obind _ fun _ => xIndexAddr_mov cx _ _ _
  case index => exact mov_obind _ fun _ => mov_obind _ fun _ => mov_obind _ fun _ => mov_obind _ fun _ => xIndex_mov cx _ _ _
  case slice t x lo hi mx =>
    cases mx with
    | none => exact mov_obind _ fun _ => mov_obind _ fun _ => xSlice_mov cx _ _ _ _ _
    | some m => exact mov_none
  all_goals (repeat' first | exact mov_none | exact mov_k _ | exact mov_out _ | refine mov_obind _ fun _ => ?_ | refine mov_bif _ ?_ | refine mov_pos _ ?_)

theorem xop_cps (op : Op) (tm : Tm) (st : St) : CPS (fun _ k => xop op cx tm st k) := by
  cases he : isEff op with
  | false =>
    cases hl : isLoad op with
    | false => exact (xop_mov cx he hl tm).cps st
    | true => cases op <;> first | (cases hl; done) | skip
              simp only [xop]; (repeat' first | exact cps_none | exact cps_k _ _ | exact cps_out _ _ | refine cps_obind _ fun _ => ?_ | refine cps_bif _ ?_ | refine cps_pos _ ?_ | refine cps_newBlk _ _ _ _ fun _ _ => ?_)
  | true =>
    cases op <;> first | (cases he; done) | skip
    all_goals simp only [xop]
    case alloc => unfold xAlloc; (repeat' first | exact cps_none | exact cps_k _ _ | exact cps_out _ _ | refine cps_obind _ fun _ => ?_ | refine cps_bif _ ?_ | refine cps_pos _ ?_ | refine cps_newBlk _ _ _ _ fun _ _ => ?_)
    case box => refine cps_obind _ fun _ => ?_; unfold xBox; (repeat' first | exact cps_none | exact cps_k _ _ | exact cps_out _ _ | refine cps_obind _ fun _ => ?_ | refine cps_bif _ ?_ | refine cps_pos _ ?_ | refine cps_newBlk _ _ _ _ fun _ _ => ?_)
    case buildSlice => exact cps_obind _ fun _ => cps_obind _ fun _ => xBuildSlice_cps cx _ _ _ _
    case store => exact cps_obind _ fun _ => cps_obind _ fun _ => cps_obind _ fun _ => storeVar_cps cx _ _ _ _
    case makeSlice => exact cps_obind _ fun _ => cps_obind _ fun _ => cps_obind _ fun _ => cps_obind _ fun _ => cps_obind _ fun _ => xMakeSlice_cps cx _ _ _ _
    all_goals (repeat' first | exact cps_none | exact cps_k _ _ | exact cps_out _ _ | refine cps_obind _ fun _ => ?_ | refine cps_bif _ ?_ | refine cps_pos _ ?_ | refine cps_newBlk _ _ _ _ fun _ _ => ?_)

theorem appIn_cps (st : St) (sz n m c : Nat) (new : List AV) (a : Option AAddr) : CPS (fun _ k => appIn st k sz n m c new a) := by
  cases a with
  | none => exact cps_k _ _
  | some a =>
    obtain ⟨b, off⟩ := a
    cases b with
    | g _ => exact cps_none
    | r n => exact cps_storeCells _ _ _ _ fun st => cps_k _ st
theorem appU_cps (st : St) (sz n m : Nat) (old new : List AV) (id off : Nat) (b : Blk) : CPS (fun _ k => appU st k sz n m old new id off b) := by
  unfold appU
  simp only [putsK_eq, Tr.setK_eq]
  exact cps_k _ _
theorem append_cps (st : St) (sz : Nat) (a : Option AAddr) (n m : Nat) (new old : List AV) (c : Cap) : CPS (fun _ k => append st k sz a n m new old c) := by
  cases c with
  | k c => exact cps_bif2 _ (appIn_cps _ _ _ _ _ _ _) (cps_newBlk _ _ _ _ fun _ _ => cps_k _ _)
  | u i sub =>
    simp only [append]
    split
    · exact cps_obind _ fun _ => cps_bif _ (appU_cps _ _ _ _ _ _ _ _ _)
    · exact cps_none
theorem xAppend_cps (st : St) (x : AV) (e : TypeId) (s : AV) : CPS (fun _ k => xAppend cx st k x e s) := by
  cases s <;> simp only [xAppend] <;> first | exact cps_none | skip
  exact cps_obind _ fun _ => cps_obind _ fun _ => cps_obind _ fun _ => cps_obind _ fun _ => cps_obind _ fun _ => cps_bif _ (append_cps _ _ _ _ _ _ _ _)
theorem xCopy_cps (st : St) (e : TypeId) (s d : AV) : CPS (fun _ k => xCopy cx st k e s d) := by
  unfold xCopy
  split
  · exact cps_obind _ fun _ => cps_obind _ fun _ => cps_obind _ fun _ => cps_storeCells _ _ _ _ fun st => cps_k _ st
  · exact cps_none
theorem builtin_len_mov (tys : List TypeId) (args : List AV) : MOV (fun st _ k => builtin cx st k tys args .len) := by
  simp only [builtin]; (repeat' first | exact mov_none | exact mov_k _ | exact mov_out _ | refine mov_obind _ fun _ => ?_ | refine mov_bif _ ?_ | refine mov_pos _ ?_)
theorem builtin_cps (st : St) (tys : List TypeId) (args : List AV) (b : Builtin) : CPS (fun _ k => builtin cx st k tys args b) := by
  cases b <;> simp only [builtin] <;> first | ((repeat' first | exact cps_none | exact cps_k _ _ | exact cps_out _ _ | refine cps_obind _ fun _ => ?_ | refine cps_bif _ ?_ | refine cps_pos _ ?_ | refine cps_newBlk _ _ _ _ fun _ _ => ?_); done) | skip
  · exact cps_obind _ fun _ => cps_obind _ fun _ => cps_obind _ fun _ => cps_obind _ fun _ => cps_obind _ fun _ => cps_obind _ fun _ => cps_obind _ fun _ => cps_obind _ fun _ => xAppend_cps cx _ _ _ _
  · exact cps_obind _ fun _ => cps_obind _ fun _ => cps_obind _ fun _ => cps_obind _ fun _ => cps_obind _ fun _ => xCopy_cps cx _ _ _ _

/-- The same at one kind of answer. -/
theorem opK_cps (op : Op) (rec : Rec) (tm : Tm) (st : St) : (∀ k, opK op cx rec tm st k = none) ∨ ∃ v st', ∀ k, opK op cx rec tm st k = k v st' := by
  by_cases hcall : ∃ c, op = .call c
  · obtain ⟨c, rfl⟩ := hcall
    obtain ⟨cl, args, tys⟩ := c
    change (∀ k, callee cx rec tm st args.toList tys.toList k cl = none) ∨ ∃ v st', ∀ k, callee cx rec tm st args.toList tys.toList k cl = k v st'
    cases cl with
    | builtin b =>
      have h : CPS (fun _ k => obind (evs tm args.toList) fun vs => builtin cx st k tys.toList vs b) := cps_obind _ fun _ => builtin_cps cx _ _ _ _
      rcases h with h | ⟨v, st', h⟩
      · exact .inl fun k => h _ k
      · exact .inr ⟨v, st', fun k => h _ k⟩
    | value f =>
      simp only [callee]
      cases ev tm f with
      | none => exact .inl fun _ => rfl
      | some f =>
        simp only [obind_some]
        cases asFunc f with
        | none => exact .inl fun _ => rfl
        | some f =>
          simp only [obind_some]
          cases evs tm args.toList with
          | none => exact .inl fun _ => rfl
          | some vs =>
            simp only [obind_some]
            cases rec (.call f.1 (app3 f.2.1 vs f.2.2)) st with
            | none => exact .inl fun _ => rfl
            | some r =>
              cases r with
              | code _ _ _ => exact .inl fun _ => rfl
              | val v st' => exact .inr ⟨v, st', fun _ => rfl⟩
    | invoke _ _ => exact .inl fun _ => rfl
  · have h := xop_cps cx op tm st
    have e : ∀ k, opK op cx rec tm st k = xop op cx tm st k := fun k => by cases op <;> first | rfl | exact absurd ⟨_, rfl⟩ hcall
    rcases h with h | ⟨v, st', h⟩
    · exact .inl fun k => (e k).trans (h _ k)
    · exact .inr ⟨v, st', fun k => (e k).trans (h _ k)⟩

/-- One that may be moved, and is no load: its value, at any state. -/
theorem opK_mov {op : Op} (he : isEff op = false) (hl : isLoad op = false) {rec : Rec} {tm : Tm} {st : St} {v : AV} (h : movOp op cx tm st = some v) (st' : St) (k : Kt Res) : opK op cx rec tm st' k = k v st' := by
  by_cases hcall : ∃ c, op = .call c
  · obtain ⟨c, rfl⟩ := hcall
    obtain ⟨cl, args, tys⟩ := c
    have hlen : cl = .builtin .len := by
      change notLen cl = false at he
      unfold notLen at he
      split at he
      · rfl
      · cases he
    subst hlen
    change obind (evs tm args.toList) (fun vs => builtin cx st (fun v _ => some v) tys.toList vs .len) = some v at h
    change obind (evs tm args.toList) (fun vs => builtin cx st' k tys.toList vs .len) = _
    obtain ⟨vs, h1, h2⟩ := obind_inv h
    rw [h1]
    rcases builtin_len_mov cx tys.toList vs with g | ⟨u, g⟩
    · cases (g st AV (fun v _ => some v)).symm.trans h2
    · cases (g st AV (fun v _ => some v)).symm.trans h2; exact g _ _ _
  · have h' : xop op cx tm st (fun v _ => some v) = some v := by cases op <;> first | exact h | exact absurd ⟨_, rfl⟩ hcall
    have e : opK op cx rec tm st' k = xop op cx tm st' k := by cases op <;> first | rfl | exact absurd ⟨_, rfl⟩ hcall
    rw [e]
    rcases xop_mov cx he hl tm with g | ⟨u, g⟩
    · cases (g st AV (fun v _ => some v)).symm.trans h'
    · cases (g st AV (fun v _ => some v)).symm.trans h'; exact g _ _ _

/-! ### Only its operands -/
variable {cx}
theorem evs_congr {tm tm' : Tm} : ∀ {l : List Operand}, (∀ x ∈ l, ev tm x = ev tm' x) → evs tm l = evs tm' l
  | [], _ => rfl
  | x :: l, h => by
    show obind (ev tm x) (fun v => obind (evs tm l) fun vs => some (v :: vs)) = obind (ev tm' x) (fun v => obind (evs tm' l) fun vs => some (v :: vs))
    rw [h x (by simp), evs_congr fun y hy => h y (List.mem_cons_of_mem _ hy)]
theorem evParts_congr {tm tm' : Tm} : ∀ {l : List (Nat × Operand)}, (∀ x ∈ l, ev tm x.2 = ev tm' x.2) → evParts tm l = evParts tm' l
  | [], _ => rfl
  | (i, x) :: l, h => by
    show obind (ev tm x) (fun v => obind (evParts tm l) fun vs => some ((i, v) :: vs)) = obind (ev tm' x) (fun v => obind (evParts tm' l) fun vs => some ((i, v) :: vs))
    rw [h (i, x) (by simp), evParts_congr fun y hy => h y (List.mem_cons_of_mem _ hy)]
theorem bound_congr {tm tm' : Tm} (d : Nat) {o : Option Operand} (h : ∀ x, o = some x → ev tm x = ev tm' x) : bound tm d o = bound tm' d o := by
  cases o with
  | none => rfl
  | some x => show obind (ev tm x) natOf = obind (ev tm' x) natOf; rw [h x rfl]

theorem xop_congr {β : Type} {tm tm' : Tm} {st : St} {k : Kt β} {op : Op} (h : ∀ x ∈ op.operands.toList, ev tm x = ev tm' x) : xop op cx tm st k = xop op cx tm' st k := by
  cases op <;> simp only [xop]
  case build t ps => rw [evParts_congr (tm := tm) (tm' := tm') fun x hx => h x.2 (by simp only [Op.operands]; exact List.mem_map_of_mem hx)]
  case buildSlice t n ps => rw [evParts_congr (tm := tm) (tm' := tm') fun x hx => h x.2 (by simp only [Op.operands]; exact List.mem_map_of_mem hx)]
  case makeFunc fn first captured =>
    rw [evs_congr (tm := tm) (tm' := tm') (l := first.toList) fun x hx => h x (by simp [Op.operands]; exact .inl (by simpa using hx)), evs_congr (tm := tm) (tm' := tm') (l := captured.toList) fun x hx => h x (by simp [Op.operands]; exact .inr (by simpa using hx))]
  case pick c a b =>
    rw [h c (by simp [Op.operands])]
    congr 1; funext v
    unfold xPick
    rw [h a (by simp [Op.operands]), h b (by simp [Op.operands])]
  case slice t x lo hi mx =>
    cases mx with
    | some m => rfl
    | none =>
      show (obind (ev tm x) fun v => obind (cx.und.get t) fun d => xSlice cx tm st k v lo hi d) = obind (ev tm' x) fun v => obind (cx.und.get t) fun d => xSlice cx tm' st k v lo hi d
      rw [h x (by simp [Op.operands])]
      congr 1; funext v; congr 1; funext d
      have e1 : ∀ n, bound tm n lo = bound tm' n lo := fun n => bound_congr n fun y hy => h y (by subst hy; simp [Op.operands])
      have e2 : ∀ n, bound tm n hi = bound tm' n hi := fun n => bound_congr n fun y hy => h y (by subst hy; simp [Op.operands])
      unfold xSlice
      simp only [e1, e2]
  all_goals (simp only [Op.operands, List.mem_cons, List.not_mem_nil, or_false, forall_eq_or_imp, forall_eq] at h; try simp only [h])
theorem opK_congr {tm tm' : Tm} {st : St} {rec : Rec} {k : Kt Res} {op : Op} (h : ∀ x ∈ op.operands.toList, ev tm x = ev tm' x) : opK op cx rec tm st k = opK op cx rec tm' st k := by
  by_cases hcall : ∃ c, op = .call c
  · obtain ⟨c, rfl⟩ := hcall
    obtain ⟨cl, args, tys⟩ := c
    change callee cx rec tm st args.toList tys.toList k cl = callee cx rec tm' st args.toList tys.toList k cl
    have e : evs tm args.toList = evs tm' args.toList := evs_congr fun x hx => h x (by simp only [Op.operands, Call.operands]; cases cl <;> simp_all)
    cases cl with
    | builtin b => simp only [callee, e]
    | value f => simp only [callee, e, h f (by simp [Op.operands, Call.operands])]
    | invoke _ _ => rfl
  · have e : ∀ tm, opK op cx rec tm st k = xop op cx tm st k := fun tm => by cases op <;> first | rfl | exact absurd ⟨_, rfl⟩ hcall
    rw [e, e]
    exact xop_congr h
end
end Go.Sx
