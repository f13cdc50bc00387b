import Derived.Calls
import Derived.DeepKeys
namespace Go.Sx

/-! ### Trees by numbers -/
inductive Tr (α : Type) where
  | nil : Tr α
  | node (v : Option α) (l r : Tr α) : Tr α

noncomputable def bif_ {β : Type} (b : Bool) (x y : β) : β := Bool.rec y x b
noncomputable def obind {α β : Type} (o : Option α) (f : α → Option β) : Option β := Option.rec none f o

noncomputable def Tr.get {α : Type} (t : Tr α) : Nat → Option α :=
  Tr.rec (motive := fun _ => Nat → Option α) (fun _ => none)
    (fun v _ _ gl gr i => Nat.rec (motive := fun _ => Option α) v
      (fun j _ => Bool.rec (gl (Nat.div j 2)) (gr (Nat.div j 2)) (Nat.beq (Nat.mod j 2) 1)) i) t

noncomputable def Tr.single {α : Type} (f : Nat) : Nat → Option α → Tr α :=
  Nat.rec (motive := fun _ => Nat → Option α → Tr α) (fun _ _ => .nil)
    (fun _ ih i x => Nat.rec (motive := fun _ => Tr α) (.node x .nil .nil)
      (fun j _ => Bool.rec (.node none (ih (Nat.div j 2) x) .nil) (.node none .nil (ih (Nat.div j 2) x)) (Nat.beq (Nat.mod j 2) 1)) i) f

noncomputable def Tr.set {α : Type} (t : Tr α) : Nat → Option α → Tr α :=
  Tr.rec (motive := fun _ => Nat → Option α → Tr α) (fun i x => Tr.single (Nat.succ i) i x)
    (fun v l r pl pr i x => Nat.rec (motive := fun _ => Tr α) (.node x l r)
      (fun j _ => Bool.rec (.node v (pl (Nat.div j 2) x) r) (.node v l (pr (Nat.div j 2) x)) (Nat.beq (Nat.mod j 2) 1)) i) t

noncomputable def Tr.singleK {α β : Type} (f : Nat) : Nat → Option α → (Tr α → β) → β :=
  Nat.rec (motive := fun _ => Nat → Option α → (Tr α → β) → β) (fun _ _ k => k .nil)
    (fun _ ih i x k => Nat.rec (motive := fun _ => β) (k (.node x .nil .nil))
      (fun j _ => Bool.rec (ih (Nat.div j 2) x fun t => k (.node none t .nil)) (ih (Nat.div j 2) x fun t => k (.node none .nil t)) (Nat.beq (Nat.mod j 2) 1)) i) f

/-- 'set', with the tree written out ahead of what follows. -/
noncomputable def Tr.setK {α β : Type} (t : Tr α) : Nat → Option α → (Tr α → β) → β :=
  Tr.rec (motive := fun _ => Nat → Option α → (Tr α → β) → β) (fun i x k => Tr.singleK (Nat.succ i) i x k)
    (fun v l r pl pr i x k => Nat.rec (motive := fun _ => β) (k (.node x l r))
      (fun j _ => Bool.rec (pl (Nat.div j 2) x fun t => k (.node v t r)) (pr (Nat.div j 2) x fun t => k (.node v l t)) (Nat.beq (Nat.mod j 2) 1)) i) t

/-! ### Values, memory -/
inductive Bid where
  | g (n : Nat)
  | r (n : Nat)

structure AAddr where
  b : Bid
  off : Nat

inductive Cap where
  | k (n : Nat)
  | u (i sub : Nat)

inductive AV where
  | bool (b : Bool)
  | int (k : IntKind) (n : Int)
  | str (s : ByteArray)
  | ptr (a : Option AAddr)
  | slice (a : Option AAddr) (len : Nat) (cap : Cap)
  | func (fn : Fn) (first captured : List AV)
  | nilFunc
  | iface (t : TypeId) (v : AV)
  | nilIface
  | map (r : Option Nat)
  | agg (l : List AV)
  | tuple (l : List AV)
  | opq (i : Nat)

structure Blk where
  sz : Nat
  cells : Tr AV
  fam : Nat
  /-- One more than the number of the unknown capacity for which there is room, each place having so many cells; 0: none. -/
  cv : Nat
  es : Nat

structure St where
  n : Nat
  nc : Nat
  heap : Tr Blk
  live : Tr (List Nat)

structure FnI where
  results : List ResultVar
  body : Code

structure Cx where
  iv : Tr (IntKind × (Int × Int))
  ord : Tr Nat
  eqm : Tr Nat
  und : Tr TypeDesc
  size : Tr Nat
  zero : Tr (List AV)
  fns : Tr FnI
  glob : Tr (Tr AV)
  ext : FuncId → List AV → Option AV

noncomputable def takeL {α : Type} : Nat → List α → List α
  | 0, _ => []
  | _, [] => []
  | n + 1, x :: r => x :: takeL n r
noncomputable def dropL {α : Type} : Nat → List α → List α
  | 0, l => l
  | _, [] => []
  | n + 1, _ :: r => dropL n r
noncomputable def getL {α : Type} (i : Nat) (l : List α) : Option α :=
  List.rec (motive := fun _ => Nat → Option α) (fun _ => none) (fun x _ ih i => Nat.rec (motive := fun _ => Option α) (some x) (fun j _ => ih j) i) l i
noncomputable def setL {α : Type} : Nat → α → List α → List α
  | _, _, [] => []
  | 0, y, _ :: r => y :: r
  | n + 1, y, x :: r => x :: setL n y r
noncomputable def fillAt {α : Type} : Nat → List α → List α → List α
  | _, [], l => l
  | off, v :: r, l => fillAt (Nat.succ off) r (setL off v l)
noncomputable def repL {α : Type} : Nat → List α → List α
  | 0, _ => []
  | n + 1, l => l ++ repL n l
noncomputable def lenL {α : Type} (l : List α) : Nat := List.rec (motive := fun _ => Nat) 0 (fun _ _ n => Nat.succ n) l

noncomputable def ofCell : Value → Option AV
  | .bool b => some (.bool b)
  | .int k n => some (.int k n)
  | .string s => some (.str s)
  | .pointer none => some (.ptr none)
  | .slice none 0 0 => some (.slice none 0 (.k 0))
  | .nilFunc => some .nilFunc
  | .nilIface => some .nilIface
  | .map none => some (.map none)
  | _ => none
noncomputable def ofCells : List Value → Option (List AV)
  | [] => some []
  | v :: r => obind (ofCell v) fun x => obind (ofCells r) fun y => some (x :: y)
noncomputable def ofVal : Value → Option AV
  | .agg cs => obind (ofCells cs.toList) fun l => some (.agg l)
  | v => ofCell v

abbrev Tm := Tr AV

noncomputable def slot (tm : Tm) (t : Nat) : AV := Option.rec (.tuple []) (fun v => v) (tm.get t)

noncomputable def ev (tm : Tm) : Operand → Option AV
  | .tmp t => some (slot tm t)
  | .const v => ofVal v
  | .global g => some (.ptr (some ⟨.g g, 0⟩))
  | .func f => some (.func (.func f) [] [])

noncomputable def evs (tm : Tm) (l : List Operand) : Option (List AV) :=
  List.rec (motive := fun _ => Option (List AV)) (some []) (fun x _ ih => obind (ev tm x) fun v => obind ih fun vs => some (v :: vs)) l

noncomputable def evParts (tm : Tm) : List (Nat × Operand) → Option (List (Nat × AV))
  | [] => some []
  | (i, x) :: r => obind (ev tm x) fun v => obind (evParts tm r) fun vs => some ((i, v) :: vs)

/-! ### Whole numbers -/
noncomputable def ieq : Int → Int → Bool
  | .ofNat a, .ofNat b => Nat.beq a b
  | .negSucc a, .negSucc b => Nat.beq a b
  | _, _ => false
noncomputable def ilt : Int → Int → Bool
  | .ofNat a, .ofNat b => Nat.blt a b
  | .negSucc a, .negSucc b => Nat.blt b a
  | .negSucc _, .ofNat _ => true
  | .ofNat _, .negSucc _ => false
noncomputable def iadd : Int → Int → Int
  | .ofNat a, .ofNat b => .ofNat (Nat.add a b)
  | a, b => Int.add a b
noncomputable def subNN (a b : Nat) : Int := bif_ (Nat.ble b a) (.ofNat (Nat.sub a b)) (.negSucc (Nat.sub (Nat.sub b a) 1))
noncomputable def isub : Int → Int → Int
  | .ofNat a, .ofNat b => subNN a b
  | a, b => Int.sub a b
noncomputable def imul : Int → Int → Int
  | .ofNat a, .ofNat b => .ofNat (Nat.mul a b)
  | a, b => Int.mul a b
/-- The unsigned number of a kind's bits. -/
noncomputable def toU (m : Nat) : Int → Nat
  | .ofNat n => Nat.mod n m
  | .negSucc n => Nat.sub (Nat.sub m 1) (Nat.mod n m)
noncomputable def wrapU (m : Nat) (n : Int) : Int := .ofNat (toU m n)
noncomputable def signOf (h m r : Nat) : Int := bif_ (Nat.blt r h) (.ofNat r) (.negSucc (Nat.sub (Nat.sub m 1) r))
noncomputable def wrapS (h m : Nat) : Int → Int
  | .ofNat n => bif_ (Nat.blt n h) (.ofNat n) (signOf h m (Nat.mod n m))
  | .negSucc n => bif_ (Nat.blt n h) (.negSucc n) (signOf h m (Nat.sub (Nat.sub m 1) (Nat.mod n m)))
noncomputable def modOf : IntKind → Nat
  | .i8 | .u8 => 256
  | .i16 | .u16 => 65536
  | .i32 | .u32 => 4294967296
  | .i64 | .u64 => 18446744073709551616
noncomputable def wrapF : IntKind → Int → Int
  | .u8 => wrapU 256
  | .u16 => wrapU 65536
  | .u32 => wrapU 4294967296
  | .u64 => wrapU 18446744073709551616
  | .i8 => wrapS 128 256
  | .i16 => wrapS 32768 65536
  | .i32 => wrapS 2147483648 4294967296
  | .i64 => wrapS 9223372036854775808 18446744073709551616
noncomputable def iquo (k : IntKind) : Int → Int → Option AV
  | .ofNat a, .ofNat (b + 1) => some (.int k (wrapF k (.ofNat (Nat.div a (Nat.succ b)))))
  | _, _ => none
noncomputable def irem (k : IntKind) : Int → Int → Option AV
  | .ofNat a, .ofNat (b + 1) => some (.int k (.ofNat (Nat.mod a (Nat.succ b))))
  | _, _ => none
noncomputable def bitsOf : IntKind → Nat
  | .i8 | .u8 => 8
  | .i16 | .u16 => 16
  | .i32 | .u32 => 32
  | .i64 | .u64 => 64
noncomputable def nmin (a b : Nat) : Nat := bif_ (Nat.ble a b) a b
noncomputable def shl (k : IntKind) (a : Int) : Int → Option AV
  | .ofNat n => some (.int k (wrapF k (imul a (.ofNat (Nat.pow 2 (nmin n (bitsOf k)))))))
  | _ => none
noncomputable def shr (k : IntKind) : Int → Int → Option AV
  | .ofNat a, .ofNat n => some (.int k (.ofNat (Nat.div a (Nat.pow 2 (nmin n (bitsOf k))))))
  | .negSucc a, .ofNat n => some (.int k (.negSucc (Nat.div a (Nat.pow 2 (nmin n (bitsOf k))))))
  | _, _ => none
noncomputable def binInt : BinOp → IntKind → Int → Int → Option AV
  | .add => fun k a b => some (.int k (wrapF k (iadd a b)))
  | .sub => fun k a b => some (.int k (wrapF k (isub a b)))
  | .mul => fun k a b => some (.int k (wrapF k (imul a b)))
  | .quo => fun k a b => iquo k a b
  | .rem => fun k a b => irem k a b
  | .and => fun k a b => some (.int k (wrapF k (.ofNat (Nat.land (toU (modOf k) a) (toU (modOf k) b)))))
  | .or => fun k a b => some (.int k (wrapF k (.ofNat (Nat.lor (toU (modOf k) a) (toU (modOf k) b)))))
  | .xor => fun k a b => some (.int k (wrapF k (.ofNat (Nat.xor (toU (modOf k) a) (toU (modOf k) b)))))
  | .andNot => fun k a b => some (.int k (wrapF k (.ofNat (Nat.land (toU (modOf k) a) (Nat.sub (Nat.sub (modOf k) 1) (toU (modOf k) b))))))
  | .eql => fun _ a b => some (.bool (ieq a b))
  | .neq => fun _ a b => some (.bool (not (ieq a b)))
  | .lss => fun _ a b => some (.bool (ilt a b))
  | .leq => fun _ a b => some (.bool (not (ilt b a)))
  | .gtr => fun _ a b => some (.bool (ilt b a))
  | .geq => fun _ a b => some (.bool (not (ilt a b)))
  | .shl => fun k a b => shl k a b
  | .shr => fun k a b => shr k a b
noncomputable def kbeq : IntKind → IntKind → Bool
  | .i8, .i8 | .i16, .i16 | .i32, .i32 | .i64, .i64 | .u8, .u8 | .u16, .u16 | .u32, .u32 | .u64, .u64 => true
  | _, _ => false
noncomputable def isShift : BinOp → Bool
  | .shl | .shr => true
  | _ => false

noncomputable def binFn (op : BinOp) (r : Bool) : Option AV :=
  match op with
  | .eql => some (.bool r)
  | .neq => some (.bool (not r))
  | _ => none
noncomputable def bbeq : Bool → Bool → Bool
  | true, b => b
  | false, b => not b
noncomputable def isNo {α : Type} (o : Option α) : Bool := Option.rec true (fun _ => false) o
/-- Whether two are the same, by their type; c: one of them is a constant. -/
noncomputable def eqD (c : Bool) : TypeDesc → AV → AV → Option Bool
  | .bool => fun x y => match x, y with
    | .bool a, .bool b => some (bbeq a b)
    | _, _ => none
  | .pointer _ => fun x y => match x, y with
    | .ptr none, .ptr b => some (isNo b)
    | .ptr (some _), .ptr none => some false
    | _, _ => none
  | .slice _ => fun x y => match x, y with
    | .slice none _ _, .slice b _ _ => some (isNo b)
    | .slice (some _) _ _, .slice none _ _ => some false
    | _, _ => none
  | .map _ _ => fun x y => match x, y with
    | .map none, .map b => some (isNo b)
    | .map (some _), .map none => some false
    | _, _ => none
  | .func _ _ _ => fun x y => match x, y with
    | .nilFunc, .nilFunc => some true
    | .nilFunc, .func .. => some false
    | .func .., .nilFunc => some false
    | _, _ => none
  | .interface _ => fun x y => match x, y with
    | .nilIface, .nilIface => bif_ c (some true) none
    | .nilIface, .iface .. => some false
    | .iface .., .nilIface => some false
    | _, _ => none
  | _ => fun _ _ => none
noncomputable def binInts (op : BinOp) (k : IntKind) (a : Int) : AV → Option AV
  | .int k' b => bif_ (isShift op || kbeq k k') (binInt op k a b) none
  | _ => none
noncomputable def isConst : Operand → Bool
  | .const _ => true
  | _ => false
noncomputable def binOp (und : Tr TypeDesc) (op : BinOp) (t : TypeId) (c : Bool) (y : AV) : AV → Option AV
  | .int k a => binInts op k a y
  | x => obind (und.get t) fun d => obind (eqD c d x y) fun r => binFn op r
noncomputable def unOp (op : UnOp) : AV → Option AV
  | .bool b => match op with
    | .not => some (.bool (not b))
    | _ => none
  | .int k n => match op with
    | .neg => some (.int k (wrapF k (isub 0 n)))
    | _ => none
  | _ => none

noncomputable def natOf : AV → Option Nat
  | .int _ (.ofNat n) => some n
  | _ => none
noncomputable def addO (a : Option AAddr) (n : Nat) : Option AAddr := Option.rec none (fun a => some ⟨a.b, Nat.add a.off n⟩) a
noncomputable def AV.cells : AV → List AV
  | .agg l => l
  | v => [v]

/-! ### Structs and arrays, the same or not -/
noncomputable def minOf : IntKind → Int
  | .i8 => .negSucc 127
  | .i16 => .negSucc 32767
  | .i32 => .negSucc 2147483647
  | .i64 => .negSucc 9223372036854775807
  | _ => 0
noncomputable def maxOf : IntKind → Int
  | .i8 => 127
  | .i16 => 32767
  | .i32 => 2147483647
  | .i64 => 9223372036854775807
  | .u8 => 255
  | .u16 => 65535
  | .u32 => 4294967295
  | .u64 => 18446744073709551615
noncomputable def fitsK (k : IntKind) (n : Int) : Bool := not (ilt n (minOf k)) && not (ilt (maxOf k) n)
noncomputable def litB : List AV → Option (List AV)
  | [.bool b] => some [.bool b]
  | _ => none
noncomputable def litI (cx : Cx) (q : IntKind) : List AV → Option (List AV)
  | [.int k n] => bif_ (kbeq k q && fitsK q n) (some [.int k n]) none
  | [.opq i] => obind (cx.iv.get i) fun a => bif_ (kbeq a.1 q) (some [.opq i]) none
  | _ => none
noncomputable def catO (a : Option (List AV)) (b : Option (List AV)) : Option (List AV) := obind a fun a => obind b fun b => some (a ++ b)
noncomputable def litsA (rec : TypeId → List AV → Option (List AV)) (e : TypeId) (n s : Nat) (cs : List AV) : Option (List AV) :=
  Nat.rec (motive := fun _ => List AV → Option (List AV)) (fun _ => some []) (fun _ ih cs => catO (rec e (takeL s cs)) (ih (dropL s cs))) n cs
noncomputable def litsF (size : Tr Nat) (rec : TypeId → List AV → Option (List AV)) (cs : List AV) (fs : List Field) : Option (List AV) :=
  List.rec (motive := fun _ => Option (List AV)) (some []) (fun f _ ih => catO (obind (size.get f.type) fun s => rec f.type (takeL s (dropL f.offset cs))) ih) fs
noncomputable def litsD (cx : Cx) (rec : TypeId → List AV → Option (List AV)) (len : Nat) (cs : List AV) : TypeDesc → Option (List AV)
  | .bool => litB cs
  | .int q => litI cx q cs
  | .array n e => bif_ (Nat.beq (lenL cs) len) (obind (cx.size.get e) fun s => litsA rec e n s cs) none
  | .struct fs => bif_ (Nat.beq (lenL cs) len) (litsF cx.size rec cs fs.toList) none
  | _ => none
noncomputable def litsT (cx : Cx) (d : Nat) : TypeId → List AV → Option (List AV) :=
  Nat.rec (motive := fun _ => TypeId → List AV → Option (List AV)) (fun _ _ => none) (fun _ ih t cs => obind (cx.und.get t) fun d => obind (cx.size.get t) fun len => litsD cx ih len cs d) d
/-! ### Whole numbers that are not known -/
noncomputable def ivOf (cx : Cx) : AV → Option (IntKind × (Int × Int))
  | .int k n => some (k, (n, n))
  | .opq i => cx.iv.get i
  | _ => none
noncomputable def ile (a b : Int) : Bool := not (ilt b a)
noncomputable def tri (y n : Bool) : Option Bool := bif_ y (some true) (bif_ n (some false) none)
noncomputable def allEq (a b c d : Int) : Bool := ieq a b && (ieq b c && ieq c d)
/-- One in [a, b], one in [c, d]. -/
noncomputable def cmpIv (op : BinOp) (a b c d : Int) : Option Bool :=
  match op with
  | .lss => tri (ilt b c) (ile d a)
  | .leq => tri (ile b c) (ilt d a)
  | .gtr => tri (ilt d a) (ile b c)
  | .geq => tri (ile d a) (ilt b c)
  | .eql => tri (allEq a b c d) (ilt b c || ilt d a)
  | .neq => tri (ilt b c || ilt d a) (allEq a b c d)
  | _ => none
/-- 0: less, 1: the same, 2: more. -/
noncomputable def cmpOrd (op : BinOp) (o : Nat) : Option Bool :=
  match op with
  | .lss => some (Nat.beq o 0)
  | .leq => some (Nat.ble o 1)
  | .gtr => some (Nat.ble 2 o)
  | .geq => some (Nat.ble 1 o)
  | .eql => some (Nat.beq o 1)
  | .neq => some (not (Nat.beq o 1))
  | _ => none
noncomputable def ordOf (cx : Cx) : AV → AV → Option Nat
  | .opq i, .opq j => bif_ (Nat.beq i j) (some 1) (bif_ (Nat.blt j 64) (cx.ord.get (Nat.add (Nat.mul i 64) j)) none)
  | _, _ => none
noncomputable def orElse (a b : Option Bool) : Option Bool := Option.rec b (fun r => some r) a
noncomputable def binQ (cx : Cx) (op : BinOp) (x y : AV) : Option AV :=
  obind (ivOf cx x) fun a => obind (ivOf cx y) fun b => bif_ (kbeq a.1 b.1) (obind (orElse (cmpIv op a.2.1 a.2.2 b.2.1 b.2.2) (obind (ordOf cx x y) fun o => cmpOrd op o)) fun r => some (.bool r)) none
noncomputable def isOpq : AV → Bool
  | .opq _ => true
  | _ => false
noncomputable def asB : AV → Option Bool
  | .bool b => some b
  | _ => none
noncomputable def eqAtom (cx : Cx) : AV → AV → Option Bool
  | .bool a => fun y => obind (asB y) fun b => some (bbeq a b)
  | x => fun y => obind (binQ cx .eql x y) fun r => asB r
noncomputable def eqAtoms (cx : Cx) : List AV → List AV → Option Bool
  | [], [] => some true
  | a :: l, b :: m => obind (eqAtom cx a b) fun r => Bool.rec (some false) (eqAtoms cx l m) r
  | _, _ => none
noncomputable def eqAgg (cx : Cx) (t : TypeId) (l m : List AV) : Option Bool :=
  obind (cx.eqm.get t) fun d => obind (litsT cx d t l) fun a => obind (litsT cx d t m) fun b => eqAtoms cx a b
noncomputable def binAgg (cx : Cx) (op : BinOp) (t : TypeId) (l : List AV) : AV → Option AV
  | .agg m => obind (eqAgg cx t l m) fun r => binFn op r
  | _ => none
noncomputable def binI (cx : Cx) (op : BinOp) (t : TypeId) (c : Bool) (x y : AV) : Option AV := Bool.rec (binOp cx.und op t c y x) (binQ cx op x y) (isOpq y)
noncomputable def binOpX (cx : Cx) (op : BinOp) (t : TypeId) (c : Bool) (y : AV) : AV → Option AV
  | .agg l => binAgg cx op t l y
  | .opq i => binQ cx op (.opq i) y
  | .int k n => binI cx op t c (.int k n) y
  | x => binOp cx.und op t c y x

section
variable {β : Type} (cx : Cx)

noncomputable def isAggD : TypeDesc → Bool
  | .struct _ | .array _ _ => true
  | _ => false
noncomputable def isAgg (t : TypeId) : Option Bool := obind (cx.und.get t) fun d => some (isAggD d)

noncomputable def blkOf (st : St) : Bid → Option (Tr AV)
  | .r k => obind (st.heap.get k) fun b => some b.cells
  | .g g => cx.glob.get g

noncomputable def gets (t : Tr AV) (n : Nat) : Nat → Option (List AV) :=
  Nat.rec (motive := fun _ => Nat → Option (List AV)) (fun _ => some []) (fun _ ih off => obind (t.get off) fun v => obind (ih (Nat.succ off)) fun vs => some (v :: vs)) n

noncomputable def loadVar (st : St) (t : TypeId) (a : AAddr) : Option AV :=
  obind (isAgg cx t) fun g => obind (blkOf cx st a.b) fun tr =>
    Bool.rec (tr.get a.off) (obind (cx.size.get t) fun n => obind (gets tr n a.off) fun l => some (.agg l)) g

noncomputable def putsK (l : List AV) : Nat → Tr AV → (Tr AV → β) → β :=
  List.rec (motive := fun _ => Nat → Tr AV → (Tr AV → β) → β) (fun _ t k => k t) (fun v _ ih off t k => t.setK off (some v) fun t => ih (Nat.succ off) t k) l
noncomputable def puts (l : List AV) : Nat → Tr AV → Tr AV :=
  List.rec (motive := fun _ => Nat → Tr AV → Tr AV) (fun _ t => t) (fun v _ ih off t => ih (Nat.succ off) (t.set off (some v))) l

noncomputable def one1 : AV → Bool
  | .agg _ => false
  | .tuple _ => false
  | _ => true
noncomputable def allOne (l : List AV) : Bool := List.rec (motive := fun _ => Bool) true (fun v _ ih => Bool.rec false ih (one1 v)) l
noncomputable def killOthers (h : Tr Blk) (k : Nat) : List Nat → Tr Blk
  | [] => h
  | j :: r => bif_ (Nat.beq j k) (killOthers h k r) (killOthers (h.set j none) k r)

noncomputable def storeCells (st : St) (k off : Nat) (vs : List AV) (K : St → Option β) : Option β :=
  obind (st.heap.get k) fun b => bif_ (Nat.ble (Nat.add off (lenL vs)) b.sz && allOne vs)
    (putsK vs off b.cells fun t => Option.rec
      (st.heap.setK k (some ⟨b.sz, t, b.fam, b.cv, b.es⟩) fun h => K ⟨st.n, st.nc, h, st.live⟩)
      (fun l => (killOthers st.heap k l).setK k (some ⟨b.sz, t, b.fam, b.cv, b.es⟩) fun h => K ⟨st.n, st.nc, h, st.live.set b.fam (some [k])⟩) (st.live.get b.fam)) none

noncomputable def storeVar (st : St) (t : TypeId) (a : AAddr) (v : AV) (K : St → Option β) : Option β :=
  match a.b with
  | .g _ => none
  | .r k => obind (cx.size.get t) fun n => bif_ (Nat.beq n (lenL v.cells)) (storeCells st k a.off v.cells K) none

noncomputable def newBlk (st : St) (cs : List AV) (K : Nat → St → Option β) (cv es : Nat := 0) : Option β :=
  putsK cs 0 .nil fun t => st.heap.setK st.n (some ⟨lenL cs, t, st.n, cv, es⟩) fun h => K st.n ⟨Nat.succ st.n, st.nc, h, st.live⟩

abbrev Kt (β : Type) := AV → St → Option β

noncomputable def buildP (place : Nat → Option (Nat × Nat)) : List (Nat × AV) → List AV → Option (List AV)
  | [], l => some l
  | (i, v) :: r, l => obind (place i) fun p =>
    bif_ (Nat.beq p.2 (lenL v.cells) && Nat.ble (Nat.add p.1 p.2) (lenL l)) (buildP place r (fillAt p.1 v.cells l)) none
noncomputable def placeS (fs : List Field) (i : Nat) : Option (Nat × Nat) := obind (getL i fs) fun f => obind (cx.size.get f.type) fun n => some (f.offset, n)
noncomputable def placeA (n i : Nat) : Option (Nat × Nat) := some (Nat.mul i n, n)

noncomputable def part (t : TypeId) (l : List AV) (off : Nat) : Option AV :=
  obind (isAgg cx t) fun g => Bool.rec (getL off l)
    (obind (cx.size.get t) fun n => bif_ (Nat.ble (Nat.add off n) (lenL l)) (some (.agg (takeL n (dropL off l)))) none) g

noncomputable def out (st : St) (k : Kt β) (o : Option AV) : Option β := Option.rec none (fun v => k v st) o
noncomputable def xPick (tm : Tm) (st : St) (k : Kt β) (a b : Operand) : AV → Option β
  | .bool true => out st k (ev tm a)
  | .bool false => out st k (ev tm b)
  | _ => none
noncomputable def xAlloc (st : St) (k : Kt β) (t : TypeId) : Option β :=
  obind (cx.zero.get t) fun z => newBlk st z fun n st => k (.ptr (some ⟨.r n, 0⟩)) st
noncomputable def xBox (st : St) (k : Kt β) (v : AV) : Option β := newBlk st v.cells fun n st => k (.ptr (some ⟨.r n, 0⟩)) st
noncomputable def xBuild (st : St) (k : Kt β) (ps : List (Nat × AV)) (z : List AV) : TypeDesc → Option β
  | .struct fs => obind (buildP (placeS cx fs.toList) ps z) fun l => k (.agg l) st
  | .array _ e => obind (cx.size.get e) fun n => obind (buildP (placeA n) ps z) fun l => k (.agg l) st
  | _ => none
noncomputable def xBuildSlice (st : St) (k : Kt β) (len : Nat) (ps : List (Nat × AV)) : TypeDesc → Option β
  | .slice e => obind (cx.size.get e) fun n => obind (cx.zero.get e) fun z => obind (buildP (placeA n) ps (repL len z)) fun l =>
    bif_ (Nat.ble (Nat.mul len n) 65536) (newBlk st l fun b st => k (.slice (some ⟨.r b, 0⟩) len (.k len)) st) none
  | _ => none
noncomputable def asPtr : AV → Option AAddr
  | .ptr (some a) => some a
  | _ => none
noncomputable def xStore (st : St) (k : Kt β) (t : TypeId) (a : AAddr) (v : AV) : Option β := storeVar cx st t a v fun st => k (.tuple []) st
noncomputable def xNilCheck (st : St) (k : Kt β) : AV → Option β
  | .ptr (some a) => k (.ptr (some a)) st
  | .func (.func f) a b => k (.func (.func f) a b) st
  | _ => none
noncomputable def convInt (n : AV) : TypeDesc → Option AV
  | .int k => match n with
    | .int _ n => some (.int k (wrapF k n))
    | _ => none
  | _ => none
noncomputable def convQ (cx : Cx) (v : AV) (d : TypeDesc) : AV → Option AV
  | .opq i => match d with
    | .int k => obind (cx.iv.get i) fun a => bif_ (kbeq a.1 k) (some (.opq i)) none
    | _ => none
  | _ => convInt v d
noncomputable def mkIface (t : TypeId) (v : AV) : TypeDesc → Option AV
  | .interface _ => none
  | _ => some (.iface t v)
noncomputable def extract (i : Nat) : AV → Option AV
  | .tuple l => getL i l
  | _ => none
noncomputable def fieldsOf : TypeDesc → Option (List Field)
  | .struct fs => some fs.toList
  | _ => none
noncomputable def posSize (n : Nat) (r : Option β) : Option β := Nat.rec (motive := fun _ => Option β) none (fun _ _ => r) n
noncomputable def xFieldAddr (st : St) (k : Kt β) (f : Nat) (a : AAddr) (fs : List Field) : Option β :=
  obind (getL f fs) fun f => obind (cx.size.get f.type) fun n => posSize n (k (.ptr (some ⟨a.b, Nat.add a.off f.offset⟩)) st)
noncomputable def asAgg : AV → Option (List AV)
  | .agg l => some l
  | _ => none
noncomputable def elemAddr (st : St) (k : Kt β) (e : TypeId) (a : AAddr) (i n : Nat) : Option β :=
  obind (cx.size.get e) fun s => bif_ (Nat.blt i n) (k (.ptr (some ⟨a.b, Nat.add a.off (Nat.mul i s)⟩)) st) none
noncomputable def xIndexAddr (st : St) (k : Kt β) (i : Nat) (x : AV) : TypeDesc → Option β
  | .array n e => obind (asPtr x) fun a => elemAddr cx st k e a i n
  | .slice e => match x with
    | .slice (some a) n _ => elemAddr cx st k e a i n
    | _ => none
  | _ => none
noncomputable def xIndex (st : St) (k : Kt β) (i : Nat) (x : AV) : TypeDesc → Option β
  | .array n e => obind (asAgg x) fun l => obind (cx.size.get e) fun s => bif_ (Nat.blt i n) (out st k (part cx e l (Nat.mul i s))) none
  | _ => none
noncomputable def xMakeSlice (st : St) (k : Kt β) (l c : Nat) : TypeDesc → Option β
  | .slice e => obind (cx.zero.get e) fun z => bif_ (Nat.ble l c && Nat.ble c 65536) (newBlk st (repL c z) fun b st => k (.slice (some ⟨.r b, 0⟩) l (.k c)) st) none
  | _ => none
noncomputable def bound (tm : Tm) (d : Nat) : Option Operand → Option Nat
  | none => some d
  | some o => obind (ev tm o) natOf
noncomputable def cutPtr (st : St) (k : Kt β) (e : TypeId) (a : AAddr) (n l h : Nat) : Option β :=
  obind (cx.size.get e) fun s => bif_ (Nat.ble l h && Nat.ble h n) (k (.slice (some (bif_ (Nat.beq n l) a ⟨a.b, Nat.add a.off (Nat.mul l s)⟩)) (Nat.sub h l) (.k (Nat.sub n l))) st) none
noncomputable def cutK (st : St) (k : Kt β) (e : TypeId) (a : Option AAddr) (c l h : Nat) : Option β :=
  obind (cx.size.get e) fun s => bif_ (Nat.ble l h && Nat.ble h c) (k (.slice (bif_ (Nat.beq c l) a (addO a (Nat.mul l s))) (Nat.sub h l) (.k (Nat.sub c l))) st) none
noncomputable def cutU (st : St) (k : Kt β) (e : TypeId) (a : Option AAddr) (n i sub l h : Nat) : Option β :=
  obind (cx.size.get e) fun s => bif_ (Nat.ble l h && Nat.ble h n && (Nat.beq l 0 || Nat.blt l n)) (k (.slice (addO a (Nat.mul l s)) (Nat.sub h l) (.u i (Nat.add sub l))) st) none
noncomputable def arrOf : TypeDesc → Option (Nat × TypeId)
  | .array n e => some (n, e)
  | _ => none
noncomputable def xSlice (tm : Tm) (st : St) (k : Kt β) (x : AV) (lo hi : Option Operand) : TypeDesc → Option β
  | .slice e => match x with
    | .slice a _ (.k c) => obind (bound tm 0 lo) fun l => obind (bound tm (match x with | .slice _ n _ => n | _ => 0) hi) fun h => cutK cx st k e a c l h
    | .slice a n (.u i sub) => obind (bound tm 0 lo) fun l => obind (bound tm n hi) fun h => cutU cx st k e a n i sub l h
    | _ => none
  | .pointer p => obind (asPtr x) fun a => obind (cx.und.get p) fun d => obind (arrOf d) fun ne => obind (bound tm 0 lo) fun l => obind (bound tm ne.1 hi) fun h => cutPtr cx st k ne.2 a ne.1 l h
  | .array n e => obind (asPtr x) fun a => obind (bound tm 0 lo) fun l => obind (bound tm n hi) fun h => cutPtr cx st k e a n l h
  | _ => none

/-- One operation that is no call. -/
noncomputable def xop : Op → Cx → Tm → St → Kt β → Option β
  | .move x => fun _ tm st k => out st k (ev tm x)
  | .assign x => fun _ tm st k => out st k (ev tm x)
  | .pick c a b => fun _ tm st k => obind (ev tm c) fun c => xPick tm st k a b c
  | .alloc t => fun cx _ st k => xAlloc cx st k t
  | .box _ x => fun _ tm st k => obind (ev tm x) fun v => xBox st k v
  | .build t parts => fun cx tm st k => obind (cx.zero.get t) fun z => obind (evParts tm parts.toList) fun ps => obind (cx.und.get t) fun d => xBuild cx st k ps z d
  | .buildSlice t len parts => fun cx tm st k => obind (evParts tm parts.toList) fun ps => obind (cx.und.get t) fun d => xBuildSlice cx st k len ps d
  | .load t a => fun cx tm st k => obind (ev tm a) fun a => obind (asPtr a) fun a => out st k (loadVar cx st t a)
  | .store t a x => fun cx tm st k => obind (ev tm a) fun a => obind (asPtr a) fun a => obind (ev tm x) fun v => xStore cx st k t a v
  | .nilCheck x => fun _ tm st k => obind (ev tm x) fun v => xNilCheck st k v
  | .binOp op t x y _ => fun cx tm st k => obind (ev tm x) fun a => obind (ev tm y) fun b => out st k (binOpX cx op t (isConst x || isConst y) b a)
  | .unOp op _ x => fun _ tm st k => obind (ev tm x) fun v => out st k (unOp op v)
  | .convert s d x => fun cx tm st k => obind (ev tm x) fun v => obind (cx.und.get s) fun _ => obind (cx.und.get d) fun d => out st k (convQ cx v d v)
  | .makeFunc fn first captured => fun _ tm st k => obind (evs tm first.toList) fun a => obind (evs tm captured.toList) fun b => k (.func fn a b) st
  | .makeInterface t x => fun cx tm st k => obind (ev tm x) fun v => obind (cx.und.get t) fun d => out st k (mkIface t v d)
  | .extract x i => fun _ tm st k => obind (ev tm x) fun v => out st k (extract i v)
  | .fieldAddr s x f => fun cx tm st k => obind (ev tm x) fun a => obind (asPtr a) fun a => obind (cx.und.get s) fun d => obind (fieldsOf d) fun fs => xFieldAddr cx st k f a fs
  | .field s x f => fun cx tm st k => obind (ev tm x) fun v => obind (asAgg v) fun l => obind (cx.und.get s) fun d => obind (fieldsOf d) fun fs => obind (getL f fs) fun f => out st k (part cx f.type l f.offset)
  | .indexAddr t x i => fun cx tm st k => obind (ev tm i) fun i => obind (natOf i) fun i => obind (ev tm x) fun x => obind (cx.und.get t) fun d => xIndexAddr cx st k i x d
  | .index t x i => fun cx tm st k => obind (ev tm i) fun i => obind (natOf i) fun i => obind (ev tm x) fun x => obind (cx.und.get t) fun d => xIndex cx st k i x d
  | .makeSlice t l c => fun cx tm st k => obind (ev tm l) fun l => obind (natOf l) fun l => obind (ev tm c) fun c => obind (natOf c) fun c => obind (cx.und.get t) fun d => xMakeSlice cx st k l c d
  | .slice t x lo hi none => fun cx tm st k => obind (ev tm x) fun x => obind (cx.und.get t) fun d => xSlice cx tm st k x lo hi d
  | _ => fun _ _ _ _ => none

noncomputable def cellsOfSlice (st : St) (s n : Nat) : AV → Option (List AV)
  | .slice (some a) _ _ => obind (blkOf cx st a.b) fun t => gets t (Nat.mul n s) a.off
  | .slice none _ _ => some []
  | _ => none

noncomputable def cutTr (t : Tr AV) (n : Nat) : Nat → Tr AV :=
  Nat.rec (motive := fun _ => Tr AV → Nat → Tr AV) (fun t _ => t) (fun _ ih t i => ih (t.set i none) (Nat.succ i)) n t

noncomputable def appNew (st : St) (k : Kt β) (sz n m : Nat) (cs : List AV) : Option β :=
  newBlk ⟨st.n, Nat.succ st.nc, st.heap, st.live⟩ cs (fun b st' => k (.slice (some ⟨.r b, 0⟩) (Nat.add n m) (.u st.nc 0)) st') (Nat.succ st.nc) sz
noncomputable def appIn (st : St) (k : Kt β) (sz n m c : Nat) (new : List AV) : Option AAddr → Option β
  | some ⟨.r b, off⟩ => storeCells st b (Nat.add off (Nat.mul n sz)) new fun st => k (.slice (some ⟨.r b, off⟩) (Nat.add n m) (.k c)) st
  | some ⟨.g _, _⟩ => none
  | none => k (.slice none (Nat.add n m) (.k c)) st
noncomputable def famOf (st : St) (b : Blk) (k : Nat) : List Nat := Option.rec [k] (fun l => l) (st.live.get b.fam)
noncomputable def appU (st : St) (k : Kt β) (sz n m : Nat) (old new : List AV) (id off : Nat) (b : Blk) : Option β :=
  (killOthers st.heap id (famOf st b id)).setK id (some ⟨Nat.add off (Nat.mul n sz), cutTr b.cells (Nat.sub b.sz (Nat.add off (Nat.mul n sz))) (Nat.add off (Nat.mul n sz)), b.fam, b.cv, b.es⟩) fun h =>
  putsK (old ++ new) 0 .nil fun t => h.setK st.n (some ⟨lenL (old ++ new), t, b.fam, Nat.succ st.nc, sz⟩) fun h =>
    k (.slice (some ⟨.r st.n, 0⟩) (Nat.add n m) (.u st.nc 0)) ⟨Nat.succ st.n, Nat.succ st.nc, h, st.live.set b.fam (some [id, st.n])⟩
noncomputable def append (st : St) (k : Kt β) (sz : Nat) (a : Option AAddr) (n m : Nat) (new old : List AV) : Cap → Option β
  | .k c => bif_ (Nat.ble (Nat.add n m) c) (appIn st k sz n m c new a) (appNew st k sz n m (old ++ new))
  | .u i sub => match a with
    | some ⟨.r id, off⟩ => obind (st.heap.get id) fun b => bif_ (Nat.beq b.cv (Nat.succ i) && (Nat.beq b.es sz && (Nat.beq off (Nat.mul sub sz) && (allOne new && Nat.ble (Nat.add off (Nat.mul n sz)) b.sz)))) (appU st k sz n m old new id off b) none
    | _ => none
noncomputable def lenOf : AV → Option Nat
  | .slice _ n _ => some n
  | _ => none
noncomputable def xAppend (st : St) (k : Kt β) (x : AV) (e : TypeId) : AV → Option β
  | .slice a n c => obind (cx.zero.get e) fun _ => obind (cx.size.get e) fun sz => obind (lenOf x) fun m => obind (cellsOfSlice cx st sz m x) fun new => obind (cellsOfSlice cx st sz n (.slice a n c)) fun old =>
    bif_ (Nat.ble (Nat.mul (Nat.add n m) (Nat.succ sz)) 65536) (append st k sz a n m new old c) none
  | _ => none
noncomputable def xLen (x : AV) : TypeDesc → Option AV
  | .slice _ => match x with
    | .slice _ n _ => some (.int .i64 (.ofNat n))
    | _ => none
  | .array n _ => some (.int .i64 (.ofNat n))
  | .string => match x with
    | .str s => some (.int .i64 (.ofNat s.size))
    | _ => none
  | _ => none
noncomputable def xCopy (st : St) (k : Kt β) (e : TypeId) (s : AV) : AV → Option β
  | .slice (some ⟨.r b, off⟩) n _ => obind (cx.size.get e) fun sz => obind (lenOf s) fun m => obind (cellsOfSlice cx st sz (nmin m n) s) fun l =>
    storeCells st b off l fun st => k (.int .i64 (.ofNat (nmin m n))) st
  | _ => none
noncomputable def sliceElem : TypeDesc → Option TypeId
  | .slice e => some e
  | _ => none
noncomputable def builtin (st : St) (k : Kt β) (tys : List TypeId) (args : List AV) : Builtin → Option β
  | .len => obind (getL 0 tys) fun t => obind (getL 0 args) fun x => obind (cx.und.get t) fun d => out st k (xLen x d)
  | .append => obind (getL 0 tys) fun t => obind (getL 1 tys) fun u => obind (cx.und.get u) fun du => obind (sliceElem du) fun _ =>
      obind (getL 0 args) fun s => obind (getL 1 args) fun x => obind (cx.und.get t) fun d => obind (sliceElem d) fun e => xAppend cx st k x e s
  | .copy => obind (getL 0 tys) fun t => obind (getL 0 args) fun s => obind (getL 1 args) fun x => obind (cx.und.get t) fun d => obind (sliceElem d) fun e => xCopy cx st k e x s
  | _ => none
end

/-! ### Statements, calls -/
inductive Ex where
  | normal
  | exit (id : Nat)
  | goto (l : Nat)
  | ret

inductive Task where
  | code (c : Code) (tm : Tm)
  | loop (c : Code) (tm : Tm)
  | call (f : FuncId) (args : List AV)

inductive Res where
  | code (e : Ex) (tm : Tm) (st : St)
  | val (v : AV) (st : St)

section
variable (cx : Cx)

noncomputable def natK {β : Type} (n : Nat) (k : Nat → β) : β := Nat.rec (motive := fun _ => β) (k 0) (fun j _ => k (Nat.succ j)) n
noncomputable def forceV {β : Type} (v : AV) (k : AV → β) : β :=
  match v with
  | .int kd n => Int.rec (motive := fun _ => β) (fun n => natK n fun n => k (.int kd (.ofNat n))) (fun n => natK n fun n => k (.int kd (.negSucc n))) n
  | .bool b => Bool.rec (motive := fun _ => β) (k (.bool false)) (k (.bool true)) b
  | v => k v

noncomputable def putDK {β : Type} (tm : Tm) (v : AV) (k : Tm → β) (d : Option Tmp) : β :=
  Option.rec (motive := fun _ => β) (k tm) (fun d => forceV v fun v => tm.setK d (some v) k) d

abbrev Rec := Task → St → Option Res

noncomputable def boolOf : AV → Option Bool
  | .bool b => some b
  | _ => none
noncomputable def same : Bool → Bool → Bool
  | true, b => b
  | false, b => not b
noncomputable def guardOf (all : List Oper) (tm : Tm) (g : Nat × Bool) : Bool :=
  Option.rec false (fun o => Option.rec false (fun d => Option.rec false (fun b => same g.2 b) (boolOf (slot tm d))) o.dst) (getL g.1 all)
noncomputable def wanted (all : List Oper) (tm : Tm) (g : Option (Nat × Bool)) : Bool := Option.rec true (fun g => guardOf all tm g) g

noncomputable def resOf (st : St) (tm : Tm) : List ResultVar → Option (List AV)
  | [] => some []
  | .tmp t :: r => obind (resOf st tm r) fun vs => some (slot tm t :: vs)
  | .cell a t :: r => obind (asPtr (slot tm a)) fun a => obind (loadVar cx st t a) fun v => obind (resOf st tm r) fun vs => some (v :: vs)
noncomputable def one : List AV → AV
  | [v] => v
  | l => .tuple l
noncomputable def asFunc : AV → Option (FuncId × List AV × List AV)
  | .func (.func f) a b => some (f, a, b)
  | _ => none
noncomputable def app3 (a b c : List AV) : List AV := a ++ (b ++ c)

noncomputable def afterCall (k : Kt Res) : Option Res → Option Res
  | some (.val v st) => k v st
  | _ => none
noncomputable def callee (rec : Rec) (tm : Tm) (st : St) (args : List Operand) (tys : List TypeId) (k : Kt Res) : Callee → Option Res
  | .builtin b => obind (evs tm args) fun vs => builtin cx st k tys vs b
  | .value f => obind (ev tm f) fun f => obind (asFunc f) fun f => obind (evs tm args) fun vs => afterCall k (rec (.call f.1 (app3 f.2.1 vs f.2.2)) st)
  | _ => none
noncomputable def opK : Op → Cx → Rec → Tm → St → Kt Res → Option Res
  | .call c => fun cx rec tm st k => callee cx rec tm st c.args.toList c.argTypes.toList k c.callee
  | op => fun cx _ tm st k => xop op cx tm st k
noncomputable def opsL (rec : Rec) (all : List Oper) (l : List Oper) : Tm → St → Option Res :=
  List.rec (motive := fun _ => Tm → St → Option Res) (fun tm st => some (.code .normal tm st))
    (fun o _ ih tm st => Bool.rec (putDK tm (.tuple []) (fun tm => ih tm st) o.dst) (opK o.op cx rec tm st fun v st => putDK tm v (fun tm => ih tm st) o.dst) (wanted all tm o.guard)) l

/-! ### Statements whose order is drawn -/
noncomputable def bindsE (e : Edge) : Bool :=
  match e.ground with
  | .textOnly _ => false
  | .gcOnly _ => false
  | _ => true
noncomputable def maskOf (befs : List Nat) (i : Nat) (l : List Edge) : Option Nat :=
  List.rec (motive := fun _ => Option Nat) (some 0) (fun e _ ih => obind ih fun m =>
    Bool.rec (some m) (bif_ (Nat.blt e.on i) (obind (getL e.on befs) fun b => some (Nat.lor m (Nat.lor (Nat.pow 2 e.on) b))) none) (bindsE e)) l
noncomputable def befsOf (l : List Oper) : List Nat → Option (List Nat) :=
  List.rec (motive := fun _ => List Nat → Option (List Nat)) (fun acc => some acc) (fun o _ ih acc => obind (maskOf acc (lenL acc) o.after.toList) fun m => ih (acc ++ [m])) l
noncomputable def notLen : Callee → Bool
  | .builtin .len => false
  | _ => true
noncomputable def isEff : Op → Bool
  | .move _ => false
  | .assign _ => false
  | .pick _ _ _ => false
  | .build _ _ => false
  | .load _ _ => false
  | .nilCheck _ => false
  | .binOp _ _ _ _ _ => false
  | .unOp _ _ _ => false
  | .convert _ _ _ => false
  | .makeFunc _ _ _ => false
  | .makeInterface _ _ => false
  | .extract _ _ => false
  | .fieldAddr _ _ _ => false
  | .field _ _ _ => false
  | .indexAddr _ _ _ => false
  | .index _ _ _ => false
  | .slice _ _ _ _ _ => false
  | .call c => notLen c.callee
  | _ => true
noncomputable def tmpsOf : List Operand → List Nat
  | [] => []
  | .tmp t :: r => t :: tmpsOf r
  | _ :: r => tmpsOf r
noncomputable def namesOf (all : List Oper) (o : Oper) : List Nat :=
  (match o.dst with | some d => [d] | none => []) ++ ((match o.guard with | some g => (match getL g.1 all with | some oj => (match oj.dst with | some d => [d] | none => []) | none => []) | none => []) ++ tmpsOf o.op.operands.toList)
noncomputable def memN (n : Nat) (l : List Nat) : Bool := List.rec (motive := fun _ => Bool) false (fun x _ ih => Bool.rec ih true (Nat.beq x n)) l
/-- Each that writes a name of number i's is ordered with it. -/
noncomputable def slotsOK (befs : List Nat) (i bi : Nat) (names : List Nat) : List Oper → Nat → Bool
  | [], _ => true
  | o :: r, j => (match o.dst with
    | some d => bif_ (memN d names) (bif_ (Nat.blt j i) (Nat.testBit bi j) (bif_ (Nat.beq j i) true (match getL j befs with | some bj => Nat.testBit bj i | none => false))) true
    | none => true) && slotsOK befs i bi names r (Nat.succ j)
noncomputable def allSlots (befs : List Nat) (all : List Oper) : List Oper → Nat → Bool
  | [], _ => true
  | o :: r, i => (match getL i befs with | some bi => slotsOK befs i bi (namesOf all o) all 0 | none => false) && allSlots befs all r (Nat.succ i)
/-- The places of those that change memory; each has the one ahead of it before it. -/
noncomputable def effsOf : List Oper → Nat → List Nat
  | [], _ => []
  | o :: r, i => bif_ (isEff o.op) (i :: effsOf r (Nat.succ i)) (effsOf r (Nat.succ i))
noncomputable def chainOK (befs : List Nat) : List Nat → Bool
  | i :: j :: r => (match getL j befs with | some bj => Nat.testBit bj i | none => false) && chainOK befs (j :: r)
  | _ => true
noncomputable def countL (f : Nat → Bool) : List Nat → Nat
  | [] => 0
  | e :: r => bif_ (f e) (Nat.succ (countL f r)) (countL f r)
structure Plan where
  befs : List Nat
  effs : List Nat
noncomputable def planOf (ops : List Oper) : Option Plan :=
  obind (befsOf ops []) fun befs => bif_ (allSlots befs ops ops 0 && chainOK befs (effsOf ops 0)) (some ⟨befs, effsOf ops 0⟩) none
noncomputable def loOf (p : Plan) (i : Nat) : Nat := match getL i p.befs with | some b => countL (fun e => Nat.testBit b e) p.effs | none => 0
noncomputable def hiOf (p : Plan) (i : Nat) : Nat := countL (fun e => match getL e p.befs with | some b => not (Nat.testBit b i) | none => false) p.effs

noncomputable def sameB : Bid → Bid → Bool
  | .g a, .g b => Nat.beq a b
  | .r a, .r b => Nat.beq a b
  | _, _ => false
mutual
noncomputable def AV.same : AV → AV → Bool
  | .bool a, .bool b => bbeq a b
  | .int k a, .int j b => kbeq k j && ieq a b
  | .ptr none, .ptr none => true
  | .ptr (some a), .ptr (some b) => sameB a.b b.b && Nat.beq a.off b.off
  | .slice none n (.k c), .slice none m (.k d) => Nat.beq n m && Nat.beq c d
  | .slice (some a) n (.k c), .slice (some b) m (.k d) => (sameB a.b b.b && Nat.beq a.off b.off) && (Nat.beq n m && Nat.beq c d)
  | .slice (some a) n (.u i s), .slice (some b) m (.u j t) => (sameB a.b b.b && Nat.beq a.off b.off) && (Nat.beq n m && (Nat.beq i j && Nat.beq s t))
  | .nilFunc, .nilFunc => true
  | .nilIface, .nilIface => true
  | .map none, .map none => true
  | .agg l, .agg m => sameL l m
  | .opq i, .opq j => Nat.beq i j
  | _, _ => false
noncomputable def sameL : List AV → List AV → Bool
  | [], [] => true
  | a :: l, b :: m => AV.same a b && sameL l m
  | _, _ => false
end

structure Ld where
  t : TypeId
  a : AAddr
  v : AV
  lo : Nat
  hi : Nat
noncomputable def ldAt (l : Ld) (st : St) : Bool := Option.rec false (fun v => AV.same v l.v) (loadVar cx st l.t l.a)
/-- The load's value is that in each of the states from lo to hi. -/
noncomputable def ldOK (l : Ld) : List St → Nat → Bool
  | [], _ => true
  | st :: r, i => bif_ (Nat.ble l.lo i && Nat.ble i l.hi) (ldAt cx l st) true && ldOK l r (Nat.succ i)
noncomputable def ldsOK (sts : List St) : List Ld → Bool
  | [] => true
  | l :: r => bif_ (Nat.beq l.lo l.hi) true (ldOK cx l sts 0) && ldsOK sts r

noncomputable def lenV (tm : Tm) (st : St) (args : List Operand) (tys : List TypeId) : Option AV := obind (evs tm args) fun vs => builtin cx st (fun v _ => some v) tys vs .len
noncomputable def movOp : Op → Cx → Tm → St → Option AV
  | .call c => fun cx tm st => lenV cx tm st c.args.toList c.argTypes.toList
  | op => fun cx tm st => xop op cx tm st (fun v _ => some v)
noncomputable def noteLd (tm : Tm) (p : Plan) (i : Nat) (v : AV) (lds : List Ld) : Op → List Ld
  | .load t a => match ev tm a with
    | some x => match asPtr x with
      | some y => ⟨t, y, v, loOf p i, hiOf p i⟩ :: lds
      | none => lds
    | none => lds
  | _ => lds
/-- The operations in the text's order; which states were gone through, the last one first, and what was loaded. -/
noncomputable def drawL (rec : Rec) (all : List Oper) (p : Plan) (l : List Oper) : Nat → Tm → St → List St → List Ld → Option Res :=
  List.rec (motive := fun _ => Nat → Tm → St → List St → List Ld → Option Res)
    (fun _ tm st sts lds => bif_ (ldsOK cx sts.reverse lds) (some (.code .normal tm st)) none)
    (fun o _ ih i tm st sts lds => Bool.rec
      (putDK tm (.tuple []) (fun tm => ih (Nat.succ i) tm st (bif_ (isEff o.op) (st :: sts) sts) lds) o.dst)
      (Bool.rec
        (obind (movOp o.op cx tm st) fun v => putDK tm v (fun tm' => ih (Nat.succ i) tm' st sts (noteLd tm p i v lds o.op)) o.dst)
        (opK o.op cx rec tm st fun v st => putDK tm v (fun tm => ih (Nat.succ i) tm st (st :: sts) lds) o.dst) (isEff o.op))
      (wanted all tm o.guard)) l
noncomputable def drawn (rec : Rec) (ops : List Oper) (tm : Tm) (st : St) : Option Res := obind (planOf ops) fun p => drawL cx rec ops p ops 0 tm st [st] []

noncomputable def thenB (rec : Rec) (b : Code) : Option Res → Option Res
  | some (.code .normal tm st) => rec (.code b tm) st
  | r => r
noncomputable def thenL (rec : Rec) (b : Code) : Option Res → Option Res
  | some (.code .normal tm st) => rec (.loop b tm) st
  | r => r
noncomputable def inBlock (id : Nat) : Option Res → Option Res
  | some (.code (.exit i) tm st) => bif_ (Nat.beq i id) (some (.code .normal tm st)) (some (.code (.exit i) tm st))
  | r => r
noncomputable def stCode : Code → Cx → Rec → Tm → St → Option Res
  | .skip => fun _ _ tm st => some (.code .normal tm st)
  | .label _ => fun _ _ tm st => some (.code .normal tm st)
  | .region _ ops d => fun cx rec tm st => Bool.rec (opsL cx rec ops.toList ops.toList tm st) (drawn cx rec ops.toList tm st) d
  | .seq a b => fun _ rec tm st => thenB rec b (rec (.code a tm) st)
  | .cond c x y => fun _ rec tm st => obind (ev tm c) fun v => obind (boolOf v) fun b => Bool.rec (rec (.code y tm) st) (rec (.code x tm) st) b
  | .block id b => fun _ rec tm st => inBlock id (rec (.code b tm) st)
  | .loop b => fun _ rec tm st => rec (.loop b tm) st
  | .exit id => fun _ _ tm st => some (.code (.exit id) tm st)
  | .goto l => fun _ _ tm st => some (.code (.goto l) tm st)
  | .ret => fun _ _ tm st => some (.code .ret tm st)
  | _ => fun _ _ _ _ => none
noncomputable def stEnd (fn : FnI) (tm : Tm) (st : St) : Option Res := obind (resOf cx st tm fn.results) fun vs => some (.val (one vs) st)
noncomputable def stBody (fn : FnI) : Option Res → Option Res
  | some (.code .normal tm st) => stEnd cx fn tm st
  | some (.code .ret tm st) => stEnd cx fn tm st
  | _ => none
noncomputable def stCall (rec : Rec) (f : FuncId) (args : List AV) (st : St) : Option FnI → Option Res
  | some fn => putsK args 0 .nil fun tm => stBody cx fn (rec (.code fn.body tm) st)
  | none => obind (cx.ext f args) fun v => some (.val v st)

noncomputable def stepEv : Task → Cx → Rec → St → Option Res
  | .code c tm => fun cx rec st => stCode c cx rec tm st
  | .loop b tm => fun _ rec st => thenL rec b (rec (.code b tm) st)
  | .call f args => fun cx rec st => stCall cx rec f args st (cx.fns.get f)

noncomputable def run (n : Nat) : Task → St → Option Res :=
  Nat.rec (motive := fun _ => Task → St → Option Res) (fun _ _ => none) (fun _ ih t st => stepEv t cx ih st) n
end
end Go.Sx
