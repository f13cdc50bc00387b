import Derived.Test.YtjpohnhgajjndaaSy
/-! A program's code, made ready. -/
namespace Go.Sy
section
variable (und : Tr TypeDesc) (size : Tr Nat) (zero : Tr (List AV))
noncomputable def isAggD : TypeDesc → Bool
  | .struct _ | .array _ _ => true
  | _ => false
/-- Of a type of structs or arrays its size; none of another. -/
noncomputable def aggN (t : TypeId) : Option (Option Nat) := obind (und.get t) fun d => bif_ (isAggD d) (obind (size.get t) fun n => some (some n)) (some none)
noncomputable def zeroV (t : TypeId) : Option AV := obind (aggN und size t) fun a => obind (zero.get t) fun z => Option.rec (getL 0 z) (fun _ => some (.agg z)) a
noncomputable def cO : Operand → Option BO
  | .tmp t => some (.t (pth t))
  | .const v => obind (ofVal v) fun v => some (.c v)
  | .global g => some (.c (.ptr (some ⟨.g g, 0⟩)))
  | .func f => some (.c (.func (.func f) [] []))
noncomputable def cOs (l : List Operand) : Option (List BO) := List.rec (motive := fun _ => Option (List BO)) (some []) (fun x _ ih => obind (cO x) fun b => obind ih fun r => some (b :: r)) l
noncomputable def cOo : Option Operand → Option (Option BO)
  | none => some none
  | some x => obind (cO x) fun b => some (some b)
noncomputable def isConst : Operand → Bool
  | .const _ => true
  | _ => false
noncomputable def eqAV : AV → AV → Bool
  | .int j a, .int k b => kbeq j k && Nat.beq a b
  | .bool a, .bool b => bbeq a b
  | _, _ => false
noncomputable def allSame (v : AV) (l : List AV) : Bool := List.rec (motive := fun _ => Bool) true (fun x _ ih => bif_ (eqAV v x) ih false) l
noncomputable def uni : List AV → List AV
  | [] => []
  | v :: l => bif_ (allSame v l) [v] (v :: l)
noncomputable def fieldsOf : TypeDesc → Option (List Field)
  | .struct fs => some fs.toList
  | _ => none
noncomputable def placeS (fs : List Field) (i : Nat) : Option (Nat × Nat) := obind (getL i fs) fun f => obind (size.get f.type) fun n => some (f.offset, n)
noncomputable def placeA (n i : Nat) : Option (Nat × Nat) := some (Nat.mul i n, n)
noncomputable def cParts (place : Nat → Option (Nat × Nat)) (l : List (Nat × Operand)) : Option (List (Nat × Nat × BO)) :=
  List.rec (motive := fun _ => Option (List (Nat × Nat × BO))) (some []) (fun p _ ih => obind (place p.1) fun q => obind (cO p.2) fun b => obind ih fun r => some ((q.1, (q.2, b)) :: r)) l
noncomputable def cBuild (t : TypeId) (parts : List (Nat × Operand)) : TypeDesc → Option BOp
  | .struct fs => obind (zero.get t) fun z => obind (cParts (placeS size fs.toList) parts) fun ps => some (.build z ps)
  | .array _ e => obind (zero.get t) fun z => obind (size.get e) fun n => obind (cParts (placeA n) parts) fun ps => some (.build z ps)
  | _ => none
noncomputable def cBslice (len : Nat) (parts : List (Nat × Operand)) : TypeDesc → Option BOp
  | .slice e => obind (size.get e) fun n => obind (zero.get e) fun z => obind (cParts (placeA n) parts) fun ps => bif_ (Nat.ble (Nat.mul len n) 65536 && Nat.blt 0 n) (some (.bslice len n (repL len z) ps)) none
  | _ => none
noncomputable def isU8 (e : TypeId) : Bool := Option.rec false (fun d => match d with | .int .u8 => true | _ => false) (und.get e)
noncomputable def ebOf : TypeDesc → TypeDesc → Bool
  | _, .slice e => isU8 und e
  | .slice e, .string => isU8 und e
  | _, _ => false
noncomputable def notIface : TypeDesc → Bool
  | .interface _ => false
  | _ => true
noncomputable def cSlice (x : BO) (lo hi mx : Option BO) : TypeDesc → Option BOp
  | .slice e => obind (size.get e) fun s => some (.slS s x lo hi mx)
  | .array n e => obind (size.get e) fun s => some (.slA n s x lo hi mx)
  | .pointer p => obind (und.get p) fun d => match d with
    | .array n e => obind (size.get e) fun s => some (.slA n s x lo hi mx)
    | _ => none
  | .string => match mx with
    | none => some (.slT x lo hi)
    | _ => none
  | _ => none
noncomputable def cIadr (x i : BO) : TypeDesc → Option BOp
  | .array n e => obind (size.get e) fun s => some (.iadrA n s x i)
  | .slice e => obind (size.get e) fun s => some (.iadrS s x i)
  | _ => none
noncomputable def cIdx (x i : BO) : TypeDesc → Option BOp
  | .array n e => obind (size.get e) fun s => obind (aggN und size e) fun a => some (.idxA n s a x i)
  | .string => some (.idxS x i)
  | _ => none
noncomputable def mapKE : TypeDesc → Option (TypeId × TypeId)
  | .map k e => some (k, e)
  | _ => none
noncomputable def keyKind : TypeDesc → Bool
  | .int _ | .string | .bool => true
  | _ => false
noncomputable def keyD (t : TypeId) : Option (TypeDesc × TypeId) := obind (und.get t) fun d => obind (mapKE d) fun p => obind (und.get p.1) fun k => bif_ (keyKind k) (some (k, p.2)) none
noncomputable def lenN : TypeDesc → Option (Option (Option Nat))
  | .slice _ | .string => some (some none)
  | .map _ _ => some none
  | .array n _ => some (some (some n))
  | .pointer p => obind (und.get p) fun d => match d with
    | .array n _ => some (some (some n))
    | _ => none
  | _ => none
noncomputable def sliceElem : TypeDesc → Option TypeId
  | .slice e => some e
  | _ => none
noncomputable def srcD : TypeDesc → Bool
  | .slice _ | .string => true
  | _ => false
noncomputable def isStrD : TypeDesc → Bool
  | .string => true
  | _ => false
noncomputable def isIntD : TypeDesc → Bool
  | .int _ => true
  | _ => false
noncomputable def cBuiltin (tys : List TypeId) (args : List BO) (t : TypeId) : Builtin → Option BOp
  | .len => obind (getL 0 tys) fun t => obind (getL 0 args) fun x => obind (und.get t) fun d => obind (lenN und d) fun n => Option.rec (some (.mlen x)) (fun n => some (.len n (isStrD d) x)) n
  | .cap => obind (getL 0 tys) fun t => obind (getL 0 args) fun x => obind (und.get t) fun d => obind (lenN und d) fun n => Option.rec none (fun n => bif_ (isStrD d) none (some (.cap n x))) n
  | .append => obind (getL 0 tys) fun t => obind (getL 1 tys) fun u => obind (und.get u) fun du => bif_ (srcD du) (obind (getL 0 args) fun s => obind (getL 1 args) fun x => obind (und.get t) fun d => obind (sliceElem d) fun e => obind (size.get e) fun n => obind (zero.get e) fun _ => bif_ (Nat.blt 0 n) (some (.append n s x)) none) none
  | .copy => obind (getL 0 tys) fun t => obind (getL 1 tys) fun u => obind (und.get u) fun du => bif_ (srcD du) (obind (getL 0 args) fun s => obind (getL 1 args) fun x => obind (und.get t) fun d => obind (sliceElem d) fun e => obind (size.get e) fun n => some (.copy n s x)) none
  | .min => obind (und.get t) fun d => bif_ (isIntD d) (some (.minmax false args)) none
  | .max => obind (und.get t) fun d => bif_ (isIntD d) (some (.minmax true args)) none
  | .delete => obind (getL 0 tys) fun t => obind (getL 0 args) fun m => obind (getL 1 args) fun k => obind (keyD und t) fun p => some (.mdel p.1 m k)
  | .clear => obind (getL 0 tys) fun t => obind (getL 0 args) fun m => obind (und.get t) fun d => match d with
    | .map _ _ => some (.mclear m)
    | .slice e => obind (zero.get e) fun z => obind (size.get e) fun n => some (.clearS n z m)
    | _ => none
  | _ => none
noncomputable def cCall (args : List BO) (tys : List TypeId) (t : TypeId) : Callee → Option BOp
  | .builtin b => cBuiltin und size zero tys args t b
  | .value f => match f with
    | .func f => some (.callf f args)
    | x => obind (cO x) fun x => some (.callv x args)
  | _ => none
noncomputable def hintOK : Option Operand → Bool
  | none => true
  | some (.const (.int _ _)) => true
  | _ => false
noncomputable def cOp (t : TypeId) : Op → Option BOp
  | .move x => obind (cO x) fun x => some (.mov x)
  | .assign x => obind (cO x) fun x => some (.mov x)
  | .pick c a b => obind (cO c) fun c => obind (cO a) fun a => obind (cO b) fun b => some (.pick c a b)
  | .alloc t => obind (zero.get t) fun z => some (.alloc (lenL z) (lenL (uni z)) (uni z))
  | .box _ x => obind (cO x) fun x => some (.box x)
  | .build t ps => obind (und.get t) fun d => cBuild size zero t ps.toList d
  | .buildSlice t n ps => obind (und.get t) fun d => cBslice size zero n ps.toList d
  | .load t a => obind (aggN und size t) fun n => obind (cO a) fun a => some (.load n a)
  | .store t a x => obind (size.get t) fun n => obind (cO a) fun a => obind (cO x) fun x => some (.store n a x)
  | .nilCheck x => obind (cO x) fun x => some (.nilc x)
  | .binOp op t x y _ => obind (und.get t) fun d => obind (cO x) fun a => obind (cO y) fun b => some (.bin op t d (isConst x || isConst y) a b)
  | .unOp op _ x => obind (cO x) fun x => some (.un op x)
  | .convert s d x => obind (und.get s) fun sd => obind (und.get d) fun dd => obind (cO x) fun x => some (.conv sd dd (ebOf und sd dd) (Nat.beq s d) x)
  | .makeFunc fn a b => obind (cOs a.toList) fun a => obind (cOs b.toList) fun b => some (.mkf fn a b)
  | .makeInterface t x => obind (und.get t) fun d => bif_ (notIface d) (obind (cO x) fun x => some (.mki t x)) none
  | .extract x i => obind (cO x) fun x => some (.ext x i)
  | .fieldAddr s x f => obind (und.get s) fun d => obind (fieldsOf d) fun fs => obind (getL f fs) fun f => obind (size.get f.type) fun n => obind (cO x) fun x => natCase n none fun _ => some (.fadr f.offset x)
  | .field s x f => obind (und.get s) fun d => obind (fieldsOf d) fun fs => obind (getL f fs) fun f => obind (aggN und size f.type) fun n => obind (cO x) fun x => some (.fld n f.offset x)
  | .indexAddr t x i => obind (und.get t) fun d => obind (cO x) fun x => obind (cO i) fun i => cIadr size x i d
  | .index t x i => obind (und.get t) fun d => obind (cO x) fun x => obind (cO i) fun i => cIdx und size x i d
  | .makeSlice t l c => obind (und.get t) fun d => obind (sliceElem d) fun e => obind (size.get e) fun n => obind (zero.get e) fun z => obind (cO l) fun l => obind (cO c) fun c => bif_ (Nat.blt 0 n) (some (.mksl n (lenL (uni z)) (uni z) l c)) none
  | .slice t x lo hi mx => obind (und.get t) fun d => obind (cO x) fun x => obind (cOo lo) fun lo => obind (cOo hi) fun hi => obind (cOo mx) fun mx => bif_ (isNo mx || not (isNo hi)) (cSlice und size x lo hi mx d) none
  | .sliceToArrayPointer t x => obind (und.get t) fun d => match d with
    | .array n _ => obind (cO x) fun x => some (.s2a n x)
    | _ => none
  | .typeAssert x _ t ok => obind (und.get t) fun d => bif_ (notIface d) (obind (zeroV und size zero t) fun z => obind (cO x) fun x => some (.tass t z ok x)) none
  | .makeMap t r => bif_ (hintOK r) (obind (cOo r) fun _ => obind (und.get t) fun d => obind (mapKE d) fun _ => some .mkmap) none
  | .lookup t m k ok => obind (keyD und t) fun p => obind (zeroV und size zero p.2) fun z => obind (cO m) fun m => obind (cO k) fun k => some (.mlook p.1 z ok m k)
  | .mapUpdate t m k v => obind (keyD und t) fun p => obind (cO m) fun m => obind (cO k) fun k => obind (cO v) fun v => some (.mput p.1 m k v)
  | .insert t m k v => obind (keyD und t) fun p => obind (cO m) fun m => obind (cO k) fun k => obind (cO v) fun v => some (.mput p.1 m k v)
  | .mapEntry t m k => obind (keyD und t) fun p => obind (zeroV und size zero p.2) fun z => obind (cO m) fun m => obind (cO k) fun k => some (.mentry p.1 z m k)
  | .entryStore _ m s v => obind (cO m) fun m => obind (cO s) fun s => obind (cO v) fun v => some (.mstore m s v)
  | .range t x => obind (und.get t) fun d => obind (cO x) fun x => match d with
    | .map _ _ => some (.rngM x)
    | .string => some (.rngT x)
    | _ => none
  | .next x s => obind (cO x) fun x => Bool.rec (some (.nextM x)) (some (.nextT x)) s
  | .entry x => obind (cO x) fun x => some (.entry x)
  | .call c => obind (cOs c.args.toList) fun a => cCall und size zero a c.argTypes.toList t c.callee
  | _ => none
noncomputable def orBad (o : Option BOp) : BOp := Option.rec .bad (fun b => b) o
noncomputable def dstP (d : Option Tmp) : Option Px := Option.rec none (fun d => some (pth d)) d
noncomputable def grdP (all : List Oper) (g : Option (Nat × Bool)) : Option (Px × Bool) :=
  Option.rec none (fun g => Option.rec none (fun o => Option.rec none (fun d => some (pth d, g.2)) o.dst) (getL g.1 all)) g
/-- A guard that names nothing is never met. -/
noncomputable def grdOK (all : List Oper) (g : Option (Nat × Bool)) : Bool :=
  Option.rec true (fun g => Option.rec false (fun o => Option.rec false (fun _ => true) o.dst) (getL g.1 all)) g
noncomputable def cOper (all : List Oper) (o : Oper) : BOper := ⟨dstP o.dst, bif_ (grdOK all o.guard) (orBad (cOp und size zero o.type o.op)) .bad, grdP all o.guard⟩
noncomputable def mapL {α β : Type} (f : α → β) (l : List α) : List β := List.rec (motive := fun _ => List β) [] (fun x _ ih => f x :: ih) l

/-! ### Statements whose order is drawn -/
noncomputable def bindsE (e : Edge) : Bool :=
  match e.ground with
  | .textOnly _ => false
  | .gcOnly _ => false
  | _ => true
noncomputable def maskOf (befs : List Nat) (i : Nat) (l : List Edge) : Option Nat :=
  List.rec (motive := fun _ => Option Nat) (some 0) (fun e _ ih => obind ih fun m =>
    Bool.rec (some m) (bif_ (Nat.blt e.on i) (obind (getL e.on befs) fun b => some (Nat.lor m (Nat.lor (Nat.pow 2 e.on) b))) none) (bindsE e)) l
noncomputable def befsOf (l : List Oper) : List Nat → Option (List Nat) :=
  List.rec (motive := fun _ => List Nat → Option (List Nat)) (fun acc => some acc) (fun o _ ih acc => obind (maskOf acc (lenL acc) o.after.toList) fun m => ih (acc ++ [m])) l
noncomputable def isEffC : TypeDesc → TypeDesc → Bool
  | _, .int _ => false
  | .string, .string => false
  | .int _, .string => false
  | _, _ => true
noncomputable def isEff : BOp → Bool
  | .mov _ | .pick _ _ _ | .build _ _ | .load _ _ | .nilc _ | .bin _ _ _ _ _ _ | .un _ _ | .mkf _ _ _ | .mki _ _ | .ext _ _ | .fadr _ _ | .fld _ _ _ | .iadrA _ _ _ _ | .iadrS _ _ _ | .idxA _ _ _ _ _ | .idxS _ _
  | .alloc _ _ _ | .box _ | .bslice _ _ _ _ | .mksl _ _ _ _ _ | .mkmap | .slS _ _ _ _ _ | .slA _ _ _ _ _ _ | .slT _ _ _ | .s2a _ _ | .tass _ _ _ _ | .len _ _ _ | .cap _ _ | .minmax _ _ => false
  | .conv s d _ sm _ => isEffC s d && not sm
  | _ => true
noncomputable def tmpsOf : List Operand → List Nat
  | [] => []
  | .tmp t :: r => t :: tmpsOf r
  | _ :: r => tmpsOf r
noncomputable def namesOf (all : List Oper) (o : Oper) : List Nat :=
  (match o.dst with | some d => [d] | none => []) ++ ((match o.guard with | some g => (match getL g.1 all with | some oj => (match oj.dst with | some d => [d] | none => []) | none => []) | none => []) ++ tmpsOf o.op.operands.toList)
/-- Each that writes a name of number i's is ordered with it. -/
noncomputable def slotsOK (befs : List Nat) (i bi : Nat) (names : List Nat) : List Oper → Nat → Bool
  | [], _ => true
  | o :: r, j => (match o.dst with
    | some d => bif_ (memN d names) (bif_ (Nat.blt j i) (Nat.testBit bi j) (bif_ (Nat.beq j i) true (match getL j befs with | some bj => Nat.testBit bj i | none => false))) true
    | none => true) && slotsOK befs i bi names r (Nat.succ j)
noncomputable def allSlots (befs : List Nat) (all : List Oper) : List Oper → Nat → Bool
  | [], _ => true
  | o :: r, i => (match getL i befs with | some bi => slotsOK befs i bi (namesOf all o) all 0 | none => false) && allSlots befs all r (Nat.succ i)
/-- No name is written twice. -/
noncomputable def dstOf (o : Oper) : List Nat := match o.dst with | some d => [d] | none => []
noncomputable def onceD : List Oper → Bool
  | [] => true
  | o :: r => (match o.dst with | some d => not (r.any fun q => memN d (dstOf q)) | none => true) && onceD r
noncomputable def readyN (dn i b : Nat) : Bool := not (Nat.testBit dn i) && Nat.beq (Nat.land b dn) b
/-- The first one that may come now, and leaves memory as it is. -/
noncomputable def pickM (dn : Nat) : List (BOper × Nat) → Nat → Option (Nat × BOper)
  | [], _ => none
  | (o, b) :: r, i => bif_ (readyN dn i b && not (isEff o.op)) (some (i, o)) (pickM dn r (Nat.succ i))
noncomputable def pickE (dn : Nat) : List (BOper × Nat) → Nat → List (Nat × Nat × BOper)
  | [], _ => []
  | (o, b) :: r, i => bif_ (readyN dn i b && isEff o.op) ((i, (b, o)) :: pickE dn r (Nat.succ i)) (pickE dn r (Nat.succ i))
noncomputable def altS (f : Nat × Nat × BOper → Sch) : List (Nat × Nat × BOper) → Sch
  | [] => .bad
  | [p] => f p
  | p :: r => .alt (f p) (altS f r)
noncomputable def mkSch (ops : List (BOper × Nat)) (full : Nat) (n : Nat) : Nat → Sch :=
  Nat.rec (motive := fun _ => Nat → Sch) (fun dn => bif_ (Nat.beq dn full) .done .bad)
    (fun _ ih dn => bif_ (Nat.beq dn full) .done
      (Option.rec (altS (fun p => .eff p.1 p.2.1 p.2.2 (ih (Nat.lor dn (Nat.pow 2 p.1)))) (pickE dn ops 0)) (fun p => .mov p.1 p.2 (ih (Nat.lor dn (Nat.pow 2 p.1)))) (pickM dn ops 0))) n
noncomputable def zipL {α β : Type} : List α → List β → List (α × β)
  | a :: l, b :: m => (a, b) :: zipL l m
  | _, _ => []
noncomputable def schOf (ops : List Oper) : Sch :=
  Option.rec .bad (fun befs => bif_ (allSlots befs ops ops 0 && onceD ops) (mkSch (zipL (mapL (cOper und size zero ops) ops) befs) (Nat.sub (Nat.pow 2 (lenL ops)) 1) (lenL ops) 0) .bad) (befsOf ops [])

noncomputable def cCode (fid : FuncId) (c : Code) : BC :=
  Code.rec (motive := fun _ => BC) .skip
    (fun _ ops d => Bool.rec (.reg (mapL (cOper und size zero ops.toList) ops.toList)) (.drw (schOf und size zero ops.toList)) d)
    (fun _ _ a b => .seq a b)
    (fun c _ _ a b => Option.rec .bad (fun c => .cond c a b) (cO c))
    (fun id _ a => .block id a)
    (fun _ a => .loop none a)
    (fun f ps _ _ a b => Option.rec .bad (fun f => .rngf fid f (mapL pth ps.toList) a b) (cO f))
    (fun id => .exit id)
    (fun _ a => .scope a)
    (fun l => .label l)
    (fun l => .goto l)
    .ret
    (fun _ => .bad) c
noncomputable def cRes (r : ResultVar) : Option BR :=
  match r with
  | .tmp t => some (.t (pth t))
  | .cell a t => obind (aggN und size t) fun n => some (.cell n (pth a))
noncomputable def cRess (l : List ResultVar) : Option (List BR) := List.rec (motive := fun _ => Option (List BR)) (some []) (fun x _ ih => obind (cRes und size x) fun b => obind ih fun r => some (b :: r)) l
end

noncomputable def trS {α β : Type} (f : Nat → α → Option β) (l : List α) : Nat → Tr β → Tr β :=
  List.rec (motive := fun _ => Nat → Tr β → Tr β) (fun _ t => t) (fun x _ ih i t => ih (Nat.succ i) (Option.rec t (fun y => t.set i (some y)) (f i x))) l
noncomputable def trK {α β γ : Type} (f : Nat → α → Option β) (l : List α) : Nat → Tr β → (Tr β → γ) → γ :=
  List.rec (motive := fun _ => Nat → Tr β → (Tr β → γ) → γ) (fun _ t k => k t) (fun x _ ih i t k => Option.rec (natK (Nat.succ i) fun j => ih j t k) (fun y => t.setK i (some y) fun t => natK (Nat.succ i) fun j => ih j t k) (f i x)) l

noncomputable def fieldsIn (n : Nat) : TypeDesc → Bool
  | .struct fs => fs.toList.all fun f => Nat.blt f.type n
  | _ => true
noncomputable def descOf (tys : Array TypeInfo) : TypeDesc → Option TypeDesc
  | .named _ u => (tys[u]?).map (·.desc)
  | d => some d
noncomputable def undOf (tys : Array TypeInfo) (i : TypeInfo) : Option TypeDesc :=
  obind (descOf tys i.desc) fun d => bif_ (fieldsIn tys.size d) (some d) none
noncomputable def zeroFor (i : TypeInfo) (l : List Value) : Option (List AV) :=
  obind (ofCells l) fun z => bif_ (Nat.beq i.size (lenL z) && Nat.ble i.bytes 1048576) (some z) none
noncomputable def isAggV : Value → Bool
  | .agg _ => true
  | _ => false
noncomputable def zeroOf (tys : Array TypeInfo) (i : TypeInfo) : Option (List AV) := obind i.zero fun z => obind (descOf tys i.desc) fun d => bif_ (bbeq (isAggV z) (isAggD d)) (zeroFor i z.cells.toList) none
noncomputable def eqmOf (P : Program) (t : Nat) : Option Nat :=
  bif_ (P.keyTypeAt 20 t && (not (P.eqGuardType P.depth t) && (match P.underlying t with | some (.array _ _) | some (.struct _) => true | _ => false))) (some 20) none
def dstLt (N : Nat) (o : Oper) : Bool := match o.dst with | none => true | some d => decide (d < N)
def okCode (N : Nat) : Code → Bool
  | .region _ ops _ => ops.toList.all (dstLt N)
  | .seq a b => okCode N a && okCode N b
  | .cond _ a b => okCode N a && okCode N b
  | .block _ a => okCode N a
  | .loop a => okCode N a
  | .rangeFunc _ ps a b => ps.toList.all (fun p => decide (p < N)) && (okCode N a && okCode N b)
  | .scope a => okCode N a
  | _ => true
noncomputable def fnOf (und : Tr TypeDesc) (size : Tr Nat) (zero : Tr (List AV)) (i : Nat) (f : Func) : Option FnI :=
  obind f.body fun c => bif_ (okCode f.ntmps c && not (f.name == "runtime.NumGoroutine")) (obind (cRess und size f.results.toList) fun r => some { results := r, body := cCode und size zero i c }) none
noncomputable def conOf (f : Func) : Option Con := Option.rec (extF f.name) (fun _ => none) f.body
noncomputable def cxWith (P : Program) (con : Tr Con) (glob : Tr (Tr AV)) : Cx :=
  let u := trS (fun _ => undOf P.types) P.types.toList 0 .nil
  let s := trS (fun _ i => some i.size) P.types.toList 0 .nil
  let z := trS (fun _ => zeroOf P.types) P.types.toList 0 .nil
  { eqm := trS (fun i _ => eqmOf P i) P.types.toList 0 .nil, und := u, size := s, zero := z, fns := trS (fnOf u s z) P.funcs.toList 0 .nil, glob := glob, con := con }
noncomputable def cxOf (P : Program) : Cx := cxWith P .nil .nil
/-- The same, the tables written out. -/
noncomputable def runX (P : Program) (con : Tr Con) (glob : Tr (Tr AV)) (n : Nat) (t : Task) (K : Res → VC) : VC :=
  trK (fun _ => undOf P.types) P.types.toList 0 .nil fun u => trK (fun _ i => some i.size) P.types.toList 0 .nil fun s => trK (fun _ => zeroOf P.types) P.types.toList 0 .nil fun z =>
  trK (fun i _ => eqmOf P i) P.types.toList 0 .nil fun e => trK (fnOf u s z) P.funcs.toList 0 .nil fun f =>
  run { eqm := e, und := u, size := s, zero := z, fns := f, glob := glob, con := con } n t st0 K
end Go.Sy
