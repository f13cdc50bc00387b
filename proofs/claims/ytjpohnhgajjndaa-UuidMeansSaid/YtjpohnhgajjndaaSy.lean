import Derived.CallsIn
import Derived.RangeFuncIn
import Derived.RangeFuncLeaves
import Derived.OrdersIn
import Derived.DeepKeys
namespace Go.Sy

/-! ### Trees by numbers -/
inductive Px where
  | h
  | o (p : Px)
  | i (p : Px)
inductive Tr (α : Type) where
  | nil : Tr α
  | node (v : Option α) (l r : Tr α) : Tr α

noncomputable def bif_ {β : Type} (b : Bool) (x y : β) : β := Bool.rec y x b
noncomputable def natCase {β : Type} (n : Nat) (z : β) (s : Nat → β) : β := Nat.rec (motive := fun _ => β) z (fun j _ => s j) n
noncomputable def trCase {α β : Type} (t : Tr α) (z : β) (s : Option α → Tr α → Tr α → β) : β := Tr.rec (motive := fun _ => β) z (fun v l r _ _ => s v l r) t
noncomputable def obind {α β : Type} (o : Option α) (f : α → Option β) : Option β := Option.rec none f o

noncomputable def pthF (f : Nat) : Nat → Px :=
  Nat.rec (motive := fun _ => Nat → Px) (fun _ => .h) (fun _ ih i => natCase i .h fun j => Bool.rec (.o (ih (Nat.div j 2))) (.i (ih (Nat.div j 2))) (Nat.beq (Nat.mod j 2) 1)) f
noncomputable def pth (i : Nat) : Px := pthF (Nat.succ i) i

noncomputable def Tr.val {α : Type} (t : Tr α) : Option α := trCase t none fun v _ _ => v
noncomputable def Tr.lft {α : Type} (t : Tr α) : Tr α := trCase t .nil fun _ l _ => l
noncomputable def Tr.rgt {α : Type} (t : Tr α) : Tr α := trCase t .nil fun _ _ r => r
noncomputable def Tr.getP {α : Type} (p : Px) : Tr α → Option α :=
  Px.rec (motive := fun _ => Tr α → Option α) (fun t => t.val) (fun _ ih t => ih t.lft) (fun _ ih t => ih t.rgt) p
noncomputable def Tr.setP {α β : Type} (p : Px) : Tr α → Option α → (Tr α → β) → β :=
  Px.rec (motive := fun _ => Tr α → Option α → (Tr α → β) → β)
    (fun t x k => trCase t (k (.node x .nil .nil)) fun _ l r => k (.node x l r))
    (fun _ ih t x k => trCase t (ih .nil x fun l => k (.node none l .nil)) fun v l r => ih l x fun l => k (.node v l r))
    (fun _ ih t x k => trCase t (ih .nil x fun r => k (.node none .nil r)) fun v l r => ih r x fun r => k (.node v l r)) p
noncomputable def Tr.get {α : Type} (t : Tr α) (i : Nat) : Option α := Tr.getP (pth i) t
noncomputable def Tr.setK {α β : Type} (t : Tr α) (i : Nat) (x : Option α) (k : Tr α → β) : β := Tr.setP (pth i) t x k
noncomputable def Tr.set {α : Type} (t : Tr α) (i : Nat) (x : Option α) : Tr α := Tr.setP (pth i) t x fun t => t

/-! ### Terms -/
inductive T where
  | z (n : Int)
  | zv (i : Nat)
  | bin (op : BinOp) (k : IntKind) (x y : T)
  | conv (k : IntKind) (x : T)
  | sel (a i : T)
  | alen (a : T)
  | av (i : Nat)
  | nila
  | app (x y : T)
  | ci (k : IntKind) (x : T)
  | cb (c : T)
  | bl (b : Bool)
  | cmp (op : BinOp) (x y : T)
  | not (x : T)
  | and (x y : T)
  | selb (a i : T)
  | aeq (x y : T)
  | sub (x i j : T)
  | upd (x i y : T)
  | typ (c : Nat) (x : T)

/-! ### Values, memory -/
inductive Bid where
  | g (n : Nat)
  | r (n : Nat)

structure AAddr where
  b : Bid
  off : Nat

inductive Cap where
  | k (n : Nat)
  | u (i sub : Nat)
  | t (c : T)

inductive AV where
  | bool (b : Bool)
  | int (k : IntKind) (u : Nat)
  | sym (k : IntKind) (t : T)
  | cnd (c : T)
  | str (n : Nat) (s : List Nat)
  | sstr (t : T)
  | ptr (a : Option AAddr)
  | sptr (b : Bid) (off : T)
  | slice (a : Option AAddr) (len : Nat) (cap : Cap)
  | ssl (b : Bid) (off len : T) (cap : Cap)
  /-- None of a capacity's places from the n-th on, d cells behind a where there are any. -/
  | sl0 (a : AAddr) (i n d : Nat)
  | func (fn : Fn) (first captured : List AV)
  | yld (l : Nat)
  | nilFunc
  | iface (t : TypeId) (v : AV)
  | nilIface
  | map (r : Option Nat)
  | agg (l : List AV)
  | tuple (l : List AV)
  | opq (i : Nat)

structure Blk where
  sz : Nat
  cells : Tr AV
  /-- What stands in cells that are not listed: these ones, again and again; zn of them (0: not known). -/
  z : List AV
  zn : Nat
  fam : Nat
  /-- One more than the number of the unknown capacity for which there is room, each place having so many cells; 0: none. -/
  cv : Nat
  es : Nat

abbrev Tm := Tr AV

noncomputable def takeL {α : Type} : Nat → List α → List α
  | 0, _ => []
  | _, [] => []
  | n + 1, x :: r => x :: takeL n r
noncomputable def dropL {α : Type} : Nat → List α → List α
  | 0, l => l
  | _, [] => []
  | n + 1, _ :: r => dropL n r
noncomputable def getL {α : Type} (i : Nat) (l : List α) : Option α :=
  List.rec (motive := fun _ => Nat → Option α) (fun _ => none) (fun x _ ih i => natCase i (some x) ih) l i
noncomputable def setL {α : Type} : Nat → α → List α → List α
  | _, _, [] => []
  | 0, y, _ :: r => y :: r
  | n + 1, y, x :: r => x :: setL n y r
noncomputable def fillAt {α : Type} : Nat → List α → List α → List α
  | _, [], l => l
  | off, v :: r, l => fillAt (Nat.succ off) r (setL off v l)
noncomputable def repL {α : Type} : Nat → List α → List α
  | 0, _ => []
  | n + 1, l => l ++ repL n l
noncomputable def lenL {α : Type} (l : List α) : Nat := List.rec (motive := fun _ => Nat) 0 (fun _ _ n => Nat.succ n) l

/-! ### Whole numbers -/
noncomputable def ieq : Int → Int → Bool
  | .ofNat a, .ofNat b => Nat.beq a b
  | .negSucc a, .negSucc b => Nat.beq a b
  | _, _ => false
noncomputable def ilt : Int → Int → Bool
  | .ofNat a, .ofNat b => Nat.blt a b
  | .negSucc a, .negSucc b => Nat.blt b a
  | .negSucc _, .ofNat _ => true
  | .ofNat _, .negSucc _ => false
/-- The number of a kind's bits' values. -/
noncomputable def modOf : IntKind → Nat
  | .i8 | .u8 => 256
  | .i16 | .u16 => 65536
  | .i32 | .u32 => 4294967296
  | .i64 | .u64 => 18446744073709551616
/-- From here on the bits stand for less than nought. -/
noncomputable def halfOf : IntKind → Nat
  | .i8 => 128
  | .i16 => 32768
  | .i32 => 2147483648
  | .i64 => 9223372036854775808
  | .u8 => 256
  | .u16 => 65536
  | .u32 => 4294967296
  | .u64 => 18446744073709551616
noncomputable def bitsOf : IntKind → Nat
  | .i8 | .u8 => 8
  | .i16 | .u16 => 16
  | .i32 | .u32 => 32
  | .i64 | .u64 => 64
noncomputable def isS : IntKind → Bool
  | .i8 | .i16 | .i32 | .i64 => true
  | _ => false
noncomputable def sgnH (h m u : Nat) : Int := bif_ (Nat.blt u h) (.ofNat u) (.negSucc (Nat.sub (Nat.sub m 1) u))
noncomputable def sgn (k : IntKind) (u : Nat) : Int := sgnH (halfOf k) (modOf k) u
/-- The bits of a number. -/
noncomputable def toU (m : Nat) : Int → Nat
  | .ofNat n => Nat.mod n m
  | .negSucc n => Nat.sub (Nat.sub m 1) (Nat.mod n m)
noncomputable def nmin (a b : Nat) : Nat := bif_ (Nat.ble a b) a b
noncomputable def kbeq : IntKind → IntKind → Bool
  | .i8, .i8 | .i16, .i16 | .i32, .i32 | .i64, .i64 | .u8, .u8 | .u16, .u16 | .u32, .u32 | .u64, .u64 => true
  | _, _ => false
noncomputable def bopEq (a b : BinOp) : Bool := Nat.beq (num a) (num b)
where
  num : BinOp → Nat
    | .add => 0 | .sub => 1 | .mul => 2 | .quo => 3 | .rem => 4 | .and => 5 | .or => 6 | .xor => 7 | .shl => 8 | .shr => 9 | .andNot => 10
    | .eql => 11 | .neq => 12 | .lss => 13 | .leq => 14 | .gtr => 15 | .geq => 16
noncomputable def bbeq : Bool → Bool → Bool
  | true, b => b
  | false, b => not b
noncomputable def sltU (h a b : Nat) : Bool :=
  bif_ (Nat.blt a h) (bif_ (Nat.blt b h) (Nat.blt a b) false) (bif_ (Nat.blt b h) true (Nat.blt a b))
noncomputable def shrU (h m a n : Nat) : Nat := bif_ (Nat.blt a h) (Nat.div a (Nat.pow 2 n)) (Nat.sub (Nat.sub m 1) (Nat.div (Nat.sub (Nat.sub m 1) a) (Nat.pow 2 n)))
/-- Numbers' bits: what an operation that is no comparison yields. -/
noncomputable def arU (op : BinOp) (k : IntKind) (h m a b : Nat) : Option Nat :=
  match op with
  | .add => some (Nat.mod (Nat.add a b) m)
  | .sub => some (Nat.mod (Nat.add a (Nat.sub m b)) m)
  | .mul => some (Nat.mod (Nat.mul a b) m)
  | .quo => bif_ (Nat.blt a h && Nat.blt b h) (natCase b none fun c => some (Nat.div a (Nat.succ c))) none
  | .rem => bif_ (Nat.blt a h && Nat.blt b h) (natCase b none fun c => some (Nat.mod a (Nat.succ c))) none
  | .and => some (Nat.land a b)
  | .or => some (Nat.lor a b)
  | .xor => some (Nat.xor a b)
  | .andNot => some (Nat.land a (Nat.xor b (Nat.sub m 1)))
  | .shl => some (Nat.mod (Nat.mul a (Nat.pow 2 (nmin b (bitsOf k)))) m)
  | .shr => some (shrU h m a (nmin b (bitsOf k)))
  | _ => none
noncomputable def cmU (op : BinOp) (h a b : Nat) : Option Bool :=
  match op with
  | .eql => some (Nat.beq a b)
  | .neq => some (not (Nat.beq a b))
  | .lss => some (sltU h a b)
  | .leq => some (not (sltU h b a))
  | .gtr => some (sltU h b a)
  | .geq => some (not (sltU h a b))
  | _ => none
noncomputable def isCmp : BinOp → Bool
  | .eql | .neq | .lss | .leq | .gtr | .geq => true
  | _ => false
noncomputable def isShift : BinOp → Bool
  | .shl | .shr => true
  | _ => false
noncomputable def isDiv : BinOp → Bool
  | .quo | .rem => true
  | _ => false
noncomputable def binU (op : BinOp) (k : IntKind) (a b : Nat) : Option AV :=
  bif_ (isCmp op) (obind (cmU op (halfOf k) a b) fun r => some (.bool r)) (obind (arU op k (halfOf k) (modOf k) a b) fun c => some (.int k c))
noncomputable def sextU (k : IntKind) (u : Nat) : Nat := bif_ (Nat.blt u (halfOf k)) u (Nat.add u (Nat.sub 18446744073709551616 (modOf k)))
noncomputable def convU (j k : IntKind) (u : Nat) : Nat := Nat.mod (sextU j u) (modOf k)

/-! ### Constants -/
noncomputable def ofInt (k : IntKind) (n : Int) : Option AV :=
  bif_ (ieq (sgn k (toU (modOf k) n)) n) (some (.int k (toU (modOf k) n))) none
noncomputable def ofCell : Value → Option AV
  | .bool b => some (.bool b)
  | .int k n => ofInt k n
  | .string s => some (.str s.size (s.data.toList.map UInt8.toNat))
  | .pointer none => some (.ptr none)
  | .slice none 0 0 => some (.slice none 0 (.k 0))
  | .nilFunc => some .nilFunc
  | .nilIface => some .nilIface
  | .map none => some (.map none)
  | _ => none
noncomputable def ofCells : List Value → Option (List AV)
  | [] => some []
  | v :: r => obind (ofCell v) fun x => obind (ofCells r) fun y => some (x :: y)
noncomputable def ofVal : Value → Option AV
  | .agg cs => obind (ofCells cs.toList) fun l => some (.agg l)
  | v => ofCell v

/-! ### The language that is run -/
inductive BO where
  | t (p : Px)
  | c (v : AV)

inductive BOp where
  | mov (x : BO)
  | pick (c a b : BO)
  | alloc (n zn : Nat) (z : List AV)
  | box (x : BO)
  | build (z : List AV) (ps : List (Nat × Nat × BO))
  | bslice (len es : Nat) (z : List AV) (ps : List (Nat × Nat × BO))
  | load (n : Option Nat) (a : BO)
  | store (n : Nat) (a x : BO)
  | nilc (x : BO)
  | bin (op : BinOp) (t : TypeId) (d : TypeDesc) (c : Bool) (x y : BO)
  | un (op : UnOp) (x : BO)
  | conv (s d : TypeDesc) (eb sm : Bool) (x : BO)
  | mkf (fn : Fn) (first captured : List BO)
  | mki (t : TypeId) (x : BO)
  | ext (x : BO) (i : Nat)
  | fadr (off : Nat) (a : BO)
  | fld (n : Option Nat) (off : Nat) (x : BO)
  | iadrA (n es : Nat) (x i : BO)
  | iadrS (es : Nat) (x i : BO)
  | idxA (n es : Nat) (m : Option Nat) (x i : BO)
  | idxS (x i : BO)
  | mksl (es zn : Nat) (z : List AV) (l c : BO)
  | slS (es : Nat) (x : BO) (lo hi mx : Option BO)
  | slA (n es : Nat) (x : BO) (lo hi mx : Option BO)
  | slT (x : BO) (lo hi : Option BO)
  | s2a (n : Nat) (x : BO)
  | tass (t : TypeId) (z : AV) (ok : Bool) (x : BO)
  | callv (f : BO) (args : List BO)
  | callf (f : FuncId) (args : List BO)
  | len (n : Option Nat) (s : Bool) (x : BO)
  | cap (n : Option Nat) (x : BO)
  | mlen (x : BO)
  | clearS (es : Nat) (z : List AV) (x : BO)
  | append (es : Nat) (s x : BO)
  | copy (es : Nat) (d s : BO)
  | minmax (mx : Bool) (l : List BO)
  | mkmap
  | mlook (kt : TypeDesc) (z : AV) (ok : Bool) (m k : BO)
  | mput (kt : TypeDesc) (m k v : BO)
  | mdel (kt : TypeDesc) (m k : BO)
  | mclear (m : BO)
  | mentry (kt : TypeDesc) (z : AV) (m k : BO)
  | mstore (m s v : BO)
  | rngM (x : BO)
  | rngT (x : BO)
  | nextM (x : BO)
  | nextT (x : BO)
  | entry (x : BO)
  | bad

structure BOper where
  dst : Option Px
  op : BOp
  g : Option (Px × Bool)

/-- Which operation comes next, of a statement whose order is drawn: one that leaves memory as it is; or any of some others. -/
inductive Sch where
  | done
  | mov (i : Nat) (o : BOper) (r : Sch)
  | eff (i m : Nat) (o : BOper) (r : Sch)
  | alt (x y : Sch)
  | bad

inductive BC where
  | skip
  | reg (l : List BOper)
  | drw (s : Sch)
  | seq (a b : BC)
  | cond (c : BO) (x y : BC)
  | block (id : Nat) (b : BC)
  | loop (an : Option Nat) (b : BC)
  | exit (id : Nat)
  | goto (l : Nat)
  | ret
  | scope (b : BC)
  | label (l : Nat)
  | rngf (f : FuncId) (x : BO) (ps : List Px) (assign body : BC)
  | bad

inductive BR where
  | t (p : Px)
  | cell (n : Option Nat) (p : Px)

structure FnI where
  results : List BR
  body : BC

/-! ### Memory -/
inductive LSt where
  | ready | busy | done | over

inductive Ob where
  | map (es : List (AV × AV × Nat)) (clock : Nat)
  | strIt (n : Nat) (s : List Nat) (pos : Nat)
  | mapIt (m : Option Nat) (since : Nat) (seen : List Nat) (stepped : Nat)
  | loop (s : LSt) (pend : Option BC) (f : FuncId) (tm : Tm) (ps : List Px) (assign body : BC) (d : Nat)
  | dfr (o : Bool)

structure SBlk where
  t : T
  pat : Nat
  es : Nat
  fam : Nat
  cv : Nat
  ro : Bool

structure Xt where
  objs : Tr Ob
  sh : Tr SBlk
  facts : List T
  nz : Nat
  na : Nat
  no : Nat
  lv : Nat

structure St where
  n : Nat
  nc : Nat
  heap : Tr Blk
  live : Tr (List Nat)
  x : Xt

/-! ### What is owed -/
inductive Asm where
  | c (t : T)
  | p (i : Nat) (l : List T)
inductive VC where
  | ok
  | bad
  | br (c : T) (x y : VC)
  | need (c : T) (x : VC)
  | both (x y : VC)
  | all (nz na : Nat) (h : List Asm) (x : VC)
  | loop (nz na : Nat) (h : List Asm) (m : T) (zs ws : List T) (x : VC)
  | back (lv : Nat) (zs ws : List T)

noncomputable def vbind {α : Type} (o : Option α) (f : α → VC) : VC := Option.rec .bad f o
noncomputable def vif (b : Bool) (x : VC) : VC := Bool.rec .bad x b

/-! ### Facts -/
noncomputable def T.beq : T → T → Bool := fun x =>
  T.rec (motive := fun _ => T → Bool)
    (fun n y => match y with | .z m => ieq n m | _ => false)
    (fun i y => match y with | .zv j => Nat.beq i j | _ => false)
    (fun op k _ _ p q y => match y with | .bin op' k' a b => bopEq op op' && (kbeq k k' && (p a && q b)) | _ => false)
    (fun k _ p y => match y with | .conv k' a => kbeq k k' && p a | _ => false)
    (fun _ _ p q y => match y with | .sel a b => p a && q b | _ => false)
    (fun _ p y => match y with | .alen a => p a | _ => false)
    (fun i y => match y with | .av j => Nat.beq i j | _ => false)
    (fun y => match y with | .nila => true | _ => false)
    (fun _ _ p q y => match y with | .app a b => p a && q b | _ => false)
    (fun k _ p y => match y with | .ci k' a => kbeq k k' && p a | _ => false)
    (fun _ p y => match y with | .cb a => p a | _ => false)
    (fun b y => match y with | .bl c => bbeq b c | _ => false)
    (fun op _ _ p q y => match y with | .cmp op' a b => bopEq op op' && (p a && q b) | _ => false)
    (fun _ p y => match y with | .not a => p a | _ => false)
    (fun _ _ p q y => match y with | .and a b => p a && q b | _ => false)
    (fun _ _ p q y => match y with | .selb a b => p a && q b | _ => false)
    (fun _ _ p q y => match y with | .aeq a b => p a && q b | _ => false)
    (fun _ _ _ p q r y => match y with | .sub a b c => p a && (q b && r c) | _ => false)
    (fun _ _ _ p q r y => match y with | .upd a b c => p a && (q b && r c) | _ => false)
    (fun c _ p y => match y with | .typ d a => Nat.beq c d && p a | _ => false) x

noncomputable def opMask : BinOp → Nat
  | .lss => 1
  | .eql => 2
  | .leq => 3
  | .gtr => 4
  | .neq => 5
  | .geq => 6
  | _ => 7
noncomputable def flipM : Nat → Nat
  | 1 => 4
  | 3 => 6
  | 4 => 1
  | 6 => 3
  | m => m
noncomputable def negOp : BinOp → BinOp
  | .lss => .geq
  | .leq => .gtr
  | .gtr => .leq
  | .geq => .lss
  | .eql => .neq
  | .neq => .eql
  | op => op
noncomputable def flipOp : BinOp → BinOp
  | .lss => .gtr
  | .leq => .geq
  | .gtr => .lss
  | .geq => .leq
  | op => op
noncomputable def maskF (x y : T) (facts : List T) : Nat :=
  List.rec (motive := fun _ => Nat) 7 (fun f _ ih => match f with
    | .cmp op a b => bif_ (T.beq a x && T.beq b y) (Nat.land (opMask op) ih) (bif_ (T.beq a y && T.beq b x) (Nat.land (flipM (opMask op)) ih) ih)
    | _ => ih) facts
noncomputable def minOf : IntKind → Int
  | .i8 => .negSucc 127
  | .i16 => .negSucc 32767
  | .i32 => .negSucc 2147483647
  | .i64 => .negSucc 9223372036854775807
  | _ => .ofNat 0
noncomputable def maxOf : IntKind → Int
  | .i8 => .ofNat 127
  | .i16 => .ofNat 32767
  | .i32 => .ofNat 2147483647
  | .i64 => .ofNat 9223372036854775807
  | .u8 => .ofNat 255
  | .u16 => .ofNat 65535
  | .u32 => .ofNat 4294967295
  | .u64 => .ofNat 18446744073709551615
noncomputable def imax (a b : Int) : Int := bif_ (ilt a b) b a
noncomputable def imin (a b : Int) : Int := bif_ (ilt a b) a b
noncomputable def omax (a : Int) : Option Int → Option Int
  | some b => some (imax a b)
  | none => some a
noncomputable def omin (a : Int) : Option Int → Option Int
  | some b => some (imin a b)
  | none => some a
noncomputable def isucc : Int → Int
  | .ofNat n => .ofNat (Nat.succ n)
  | .negSucc 0 => .ofNat 0
  | .negSucc (n + 1) => .negSucc n
noncomputable def ipred : Int → Int
  | .ofNat 0 => .negSucc 0
  | .ofNat (n + 1) => .ofNat n
  | .negSucc n => .negSucc (Nat.succ n)
/-- What it yields is wrapped. -/
noncomputable def wraps : BinOp → Bool
  | .rem | .shr => false
  | _ => true
noncomputable def lo0 : T → Option Int
  | .z n => some n
  | .conv k _ => some (minOf k)
  | .bin op k _ _ => bif_ (wraps op) (some (minOf k)) none
  | .alen _ => some (.ofNat 0)
  | _ => none
noncomputable def hi0 : T → Option Int
  | .z n => some n
  | .conv k _ => some (maxOf k)
  | .bin op k _ _ => bif_ (wraps op) (some (maxOf k)) none
  | _ => none
noncomputable def loOp (n : Int) (ih : Option Int) : BinOp → Option Int
  | .geq => omax n ih
  | .eql => omax n ih
  | .gtr => omax (isucc n) ih
  | _ => ih
noncomputable def hiOp (n : Int) (ih : Option Int) : BinOp → Option Int
  | .leq => omin n ih
  | .eql => omin n ih
  | .lss => omin (ipred n) ih
  | _ => ih
noncomputable def loF (x : T) (facts : List T) : Option Int :=
  List.rec (motive := fun _ => Option Int) (lo0 x) (fun f _ ih => match f with
    | .cmp op a (.z n) => bif_ (T.beq a x) (loOp n ih op) ih
    | _ => ih) facts
noncomputable def hiF (x : T) (facts : List T) : Option Int :=
  List.rec (motive := fun _ => Option Int) (hi0 x) (fun f _ ih => match f with
    | .cmp op a (.z n) => bif_ (T.beq a x) (hiOp n ih op) ih
    | _ => ih) facts
/-- Where x is at most a and y is at least b: what may be of x to y. -/
noncomputable def maskHL : Option Int → Option Int → Nat
  | some a, some b => bif_ (ilt a b) 1 (bif_ (ieq a b) 3 7)
  | _, _ => 7
noncomputable def relM (facts : List T) (x y : T) : Nat :=
  bif_ (T.beq x y) 2 (Nat.land (maskF x y facts) (Nat.land (maskHL (hiF x facts) (loF y facts)) (flipM (maskHL (hiF y facts) (loF x facts)))))
noncomputable def mask3 (m q : Nat) : Option Bool :=
  bif_ (Nat.beq (Nat.land m q) m) (some true) (bif_ (Nat.beq (Nat.land m q) 0) (some false) none)
noncomputable def memT (c : T) (facts : List T) : Bool := List.rec (motive := fun _ => Bool) false (fun f _ ih => Bool.rec ih true (T.beq f c)) facts
noncomputable def notO : Option Bool → Option Bool
  | some b => some (not b)
  | none => none
noncomputable def andO : Option Bool → Option Bool → Option Bool
  | some true, y => y
  | some false, _ => some false
  | none, some false => some false
  | _, _ => none
noncomputable def lookT (c : T) (facts : List T) : Option Bool := bif_ (memT c facts) (some true) (bif_ (memT (.not c) facts) (some false) none)
noncomputable def dec (facts : List T) (c : T) : Option Bool :=
  T.rec (motive := fun _ => Option Bool)
    (fun _ => none) (fun _ => none) (fun _ _ _ _ _ _ => none) (fun _ _ _ => none) (fun _ _ _ _ => none) (fun _ _ => none) (fun _ => none) none (fun _ _ _ _ => none) (fun _ _ _ => none) (fun _ _ => none)
    (fun b => some b)
    (fun op x y _ _ => mask3 (relM facts x y) (opMask op))
    (fun _ d => notO d)
    (fun x y d e => Option.rec (lookT (.and x y) facts) (fun b => some b) (andO d e))
    (fun x y _ _ => lookT (.selb x y) facts)
    (fun x y _ _ => bif_ (T.beq x y) (some true) (lookT (.aeq x y) facts))
    (fun _ _ _ _ _ _ => none) (fun _ _ _ _ _ _ => none)
    (fun n x _ => lookT (.typ n x) facts) c
noncomputable def isZ : T → Bool
  | .z _ => true
  | _ => false
/-- A comparison, its number on the right. -/
noncomputable def mkCmp (op : BinOp) (x y : T) : T := bif_ (isZ x) (.cmp (flipOp op) y x) (.cmp op x y)
noncomputable def mkNot : T → T
  | .not x => x
  | .cmp op x y => .cmp (negOp op) x y
  | .bl b => .bl (not b)
  | x => .not x
noncomputable def addF (c : T) : List T → List T :=
  T.rec (motive := fun _ => List T → List T)
    (fun _ l => l) (fun _ l => l) (fun _ _ _ _ _ _ l => l) (fun _ _ _ l => l) (fun _ _ _ _ l => l) (fun _ _ l => l) (fun _ l => l) (fun l => l) (fun _ _ _ _ l => l) (fun _ _ _ l => l) (fun _ _ l => l)
    (fun _ l => l)
    (fun op x y _ _ l => .cmp op x y :: l)
    (fun x _ l => mkNot x :: l)
    (fun _ _ p q l => p (q l))
    (fun x y _ _ l => .selb x y :: l)
    (fun x y _ _ l => .aeq x y :: l)
    (fun _ _ _ _ _ _ l => l) (fun _ _ _ _ _ _ l => l)
    (fun n x _ l => .typ n x :: l) c
noncomputable def St.withF (st : St) (f : List T) : St :=
  match st with
  | ⟨n, nc, h, l, ⟨o, s, _, nz, na, no, lv⟩⟩ => ⟨n, nc, h, l, ⟨o, s, f, nz, na, no, lv⟩⟩
noncomputable def St.facts (st : St) : List T := st.x.facts
noncomputable def forceF (l : List T) (k : List T → VC) : VC :=
  List.rec (motive := fun _ => (List T → VC) → VC) (fun k => k []) (fun c _ ih k => ih fun r => k (c :: r)) l k
noncomputable def assume (c : T) (st : St) (k : St → VC) : VC := forceF (addF c st.facts) fun f => k (st.withF f)
/-- Either way. -/
noncomputable def brK (c : T) (st : St) (x y : St → VC) : VC :=
  Option.rec (.br c (assume c st x) (assume (mkNot c) st y)) (fun b => Bool.rec (y st) (x st) b) (dec st.facts c)
noncomputable def needK (c : T) (st : St) (k : St → VC) : VC :=
  Option.rec (.need c (assume c st k)) (fun b => Bool.rec .bad (k st) b) (dec st.facts c)

/-! ### Operands, frames -/
noncomputable def slot (tm : Tm) (p : Px) : AV := Option.rec (.tuple []) (fun v => v) (Tr.getP p tm)
noncomputable def ev (tm : Tm) : BO → AV
  | .t p => slot tm p
  | .c v => v
noncomputable def evs (tm : Tm) (l : List BO) : List AV := List.rec (motive := fun _ => List AV) [] (fun x _ ih => ev tm x :: ih) l
noncomputable def natK {β : Type} (n : Nat) (k : Nat → β) : β := natCase n (k 0) fun j => k (Nat.succ j)
noncomputable def forceV {β : Type} (v : AV) (k : AV → β) : β :=
  match v with
  | .int kd n => natK n fun n => k (.int kd n)
  | .bool b => Bool.rec (motive := fun _ => β) (k (.bool false)) (k (.bool true)) b
  | v => k v
noncomputable def putDK (tm : Tm) (v : AV) (k : Tm → VC) (d : Option Px) : VC :=
  Option.rec (motive := fun _ => VC) (k tm) (fun d => forceV v fun v => Tr.setP d tm (some v) k) d

noncomputable def natOf : AV → Option Nat
  | .int k u => bif_ (isS k) (bif_ (Nat.blt u (halfOf k)) (some u) none) (some u)
  | _ => none
noncomputable def toT : AV → Option (IntKind × T)
  | .int k u => some (k, .z (sgn k u))
  | .sym k t => some (k, t)
  | _ => none
noncomputable def toC : AV → Option T
  | .bool b => some (.bl b)
  | .cnd c => some c
  | _ => none
noncomputable def toNatI : Int → Option Nat
  | .ofNat n => some n
  | _ => none
/-- A number below n, of a term: each in turn. -/
noncomputable def enum (t : T) (n : Nat) (k : Nat → St → VC) : St → VC :=
  Nat.rec (motive := fun _ => St → VC) (fun _ => .bad) (fun j ih st => brK (.cmp .eql t (.z (.ofNat j))) st (k j) ih) n
noncomputable def idxK (v : AV) (n : Nat) (st : St) (k : Nat → St → VC) : VC :=
  match v with
  | .int j u => vbind (natOf (.int j u)) fun u => vif (Nat.blt u n) (k u st)
  | .sym _ t => vif (Nat.ble n 256) (needK (.cmp .geq t (.z (.ofNat 0))) st fun st => needK (.cmp .lss t (.z (.ofNat n))) st fun st => enum t n k st)
  | _ => .bad

abbrev Kt := AV → St → VC

/-! ### Comparing -/
noncomputable def isNo {α : Type} (o : Option α) : Bool := Option.rec true (fun _ => false) o
noncomputable def eqD (c : Bool) : TypeDesc → AV → AV → Option Bool
  | .pointer _ => fun x y => match x, y with
    | .ptr none, .ptr b => some (isNo b)
    | .ptr (some _), .ptr none => some false
    | _, _ => none
  | .slice _ => fun x y => match x, y with
    | .slice none _ _, .slice b _ _ => some (isNo b)
    | .slice (some _) _ _, .slice none _ _ => some false
    | .sl0 .., .slice none _ _ => some false
    | .slice none _ _, .sl0 .. => some false
    | _, _ => none
  | .map _ _ => fun x y => match x, y with
    | .map none, .map b => some (isNo b)
    | .map (some _), .map none => some false
    | _, _ => none
  | .func _ _ _ => fun x y => match x, y with
    | .nilFunc, .nilFunc => some true
    | .nilFunc, .func .. => some false
    | .func .., .nilFunc => some false
    | .nilFunc, .yld _ => some false
    | .yld _, .nilFunc => some false
    | _, _ => none
  | .interface _ => fun x y => match x, y with
    | .nilIface, .nilIface => bif_ c (some true) none
    | .nilIface, .iface .. => some false
    | .iface .., .nilIface => some false
    | _, _ => none
  | _ => fun _ _ => none
noncomputable def binFn (op : BinOp) (r : Bool) : Option AV :=
  match op with
  | .eql => some (.bool r)
  | .neq => some (.bool (not r))
  | _ => none
noncomputable def leqL : List Nat → List Nat → Bool
  | [], [] => true
  | a :: l, b :: m => bif_ (Nat.beq a b) (leqL l m) false
  | _, _ => false
noncomputable def lltL : List Nat → List Nat → Bool
  | _, [] => false
  | [], _ :: _ => true
  | a :: l, b :: m => bif_ (Nat.blt a b) true (bif_ (Nat.beq a b) (lltL l m) false)
noncomputable def strOp (op : BinOp) (n : Nat) (s : List Nat) (m : Nat) (t : List Nat) : Option AV :=
  match op with
  | .add => bif_ (Nat.ble (Nat.add n m) 1000000) (some (.str (Nat.add n m) (s ++ t))) none
  | .eql => some (.bool (leqL s t))
  | .neq => some (.bool (not (leqL s t)))
  | .lss => some (.bool (lltL s t))
  | .leq => some (.bool (lltL s t || leqL s t))
  | .gtr => some (.bool (not (lltL s t || leqL s t)))
  | .geq => some (.bool (not (lltL s t)))
  | _ => none
noncomputable def binT (op : BinOp) (j : IntKind) (x : T) (k : IntKind) (y : T) (st : St) (K : Kt) : VC :=
  vif (isShift op || kbeq j k)
    (bif_ (isCmp op)
      (Option.rec (K (.cnd (mkCmp op x y)) st) (fun b => K (.bool b) st) (dec st.facts (mkCmp op x y)))
      (bif_ (isDiv op) (needK (.cmp .neq y (.z (.ofNat 0))) st fun st => K (.sym j (.bin op j x y)) st)
        (bif_ (isShift op) (needK (.cmp .geq y (.z (.ofNat 0))) st fun st => K (.sym j (.bin op j x y)) st) (K (.sym j (.bin op j x y)) st))))
noncomputable def outK (st : St) (K : Kt) (o : Option AV) : VC := Option.rec .bad (fun v => K v st) o
/-- The truth of two known ones; else by cases. -/
noncomputable def eqB (op : BinOp) (c : T) (st : St) (K : Kt) : AV → VC
  | .bool b => outK st K (binFn op b)
  | _ => brK c st (fun st => outK st K (binFn op true)) (fun st => outK st K (binFn op false))

structure Cx where
  eqm : Tr Nat
  und : Tr TypeDesc
  size : Tr Nat
  zero : Tr (List AV)
  fns : Tr FnI
  glob : Tr (Tr AV)
  con : Tr (List AV → St → (AV → St → VC) → VC)

noncomputable def litK (q : Nat) : List AV → Option (List AV)
  | [.bool b] => bif_ (Nat.beq q 0) (some [.bool b]) none
  | [.cnd c] => bif_ (Nat.beq q 0) (some [.cnd c]) none
  | [.int k n] => bif_ (Nat.beq q (Nat.succ (kn k))) (some [.int k n]) none
  | [.sym k t] => bif_ (Nat.beq q (Nat.succ (kn k))) (some [.sym k t]) none
  | [.str n s] => bif_ (Nat.beq q 9 && Nat.ble n 1000000) (some [.str n s]) none
  | _ => none
where
  kn : IntKind → Nat
    | .i8 => 0 | .i16 => 1 | .i32 => 2 | .i64 => 3 | .u8 => 4 | .u16 => 5 | .u32 => 6 | .u64 => 7
noncomputable def catO (a : Option (List AV)) (b : Option (List AV)) : Option (List AV) := obind a fun a => obind b fun b => some (a ++ b)
noncomputable def litsA (rec : TypeId → List AV → Option (List AV)) (e : TypeId) (n s : Nat) (cs : List AV) : Option (List AV) :=
  Nat.rec (motive := fun _ => List AV → Option (List AV)) (fun _ => some []) (fun _ ih cs => catO (rec e (takeL s cs)) (ih (dropL s cs))) n cs
noncomputable def litsF (size : Tr Nat) (rec : TypeId → List AV → Option (List AV)) (cs : List AV) (fs : List Field) : Option (List AV) :=
  List.rec (motive := fun _ => Option (List AV)) (some []) (fun f _ ih => catO (obind (size.get f.type) fun s => rec f.type (takeL s (dropL f.offset cs))) ih) fs
noncomputable def litsD (cx : Cx) (rec : TypeId → List AV → Option (List AV)) (len : Nat) (cs : List AV) : TypeDesc → Option (List AV)
  | .bool => litK 0 cs
  | .int q => litK (Nat.succ (litK.kn q)) cs
  | .string => litK 9 cs
  | .array n e => bif_ (Nat.beq (lenL cs) len) (obind (cx.size.get e) fun s => litsA rec e n s cs) none
  | .struct fs => bif_ (Nat.beq (lenL cs) len) (litsF cx.size rec cs fs.toList) none
  | _ => none
noncomputable def litsT (cx : Cx) (d : Nat) : TypeId → List AV → Option (List AV) :=
  Nat.rec (motive := fun _ => TypeId → List AV → Option (List AV)) (fun _ _ => none) (fun _ ih t cs => obind (cx.und.get t) fun d => obind (cx.size.get t) fun len => litsD cx ih len cs d) d
/-- Two cells, the same or not. -/
noncomputable def eqAt (a b : AV) (st : St) (y n : St → VC) : VC :=
  match a, b with
  | .bool a, .bool b => bif_ (bbeq a b) (y st) (n st)
  | .bool a, .cnd c => Bool.rec (brK c st n y) (brK c st y n) a
  | .cnd c, .bool b => Bool.rec (brK c st n y) (brK c st y n) b
  | .cnd c, .cnd d => brK c st (fun st => brK d st y n) (fun st => brK d st n y)
  | .int j a, .int k b => vif (kbeq j k) (bif_ (Nat.beq a b) (y st) (n st))
  | .str _ s, .str _ t => bif_ (leqL s t) (y st) (n st)
  | a, b => vbind (toT a) fun p => vbind (toT b) fun q => vif (kbeq p.1 q.1) (brK (mkCmp .eql p.2 q.2) st y n)
noncomputable def eqAts (l : List AV) : List AV → St → (St → VC) → (St → VC) → VC :=
  List.rec (motive := fun _ => List AV → St → (St → VC) → (St → VC) → VC)
    (fun m st y _ => match m with | [] => y st | _ => .bad)
    (fun a _ ih m st y n => match m with | b :: m => eqAt a b st (fun st => ih m st y n) n | [] => .bad) l
noncomputable def binAgg (cx : Cx) (op : BinOp) (t : TypeId) (l m : List AV) (st : St) (K : Kt) : VC :=
  vbind (cx.eqm.get t) fun d => vbind (litsT cx d t l) fun a => vbind (litsT cx d t m) fun b =>
    eqAts a b st (fun st => outK st K (binFn op true)) (fun st => outK st K (binFn op false))
noncomputable def binI (op : BinOp) (j : IntKind) (a : Nat) (st : St) (K : Kt) : AV → VC
  | .int k b => vif (isShift op || kbeq j k) (bif_ (isShift op) (vbind (natOf (.int k b)) fun b => outK st K (binU op j a b)) (outK st K (binU op j a b)))
  | .sym k y => binT op j (.z (sgn j a)) k y st K
  | _ => .bad
noncomputable def binS (op : BinOp) (j : IntKind) (x : T) (st : St) (K : Kt) : AV → VC
  | .int k b => binT op j x k (.z (sgn k b)) st K
  | .sym k y => binT op j x k y st K
  | _ => .bad
noncomputable def binB (op : BinOp) (a : Bool) (st : St) (K : Kt) : AV → VC
  | .bool b => outK st K (binFn op (bbeq a b))
  | .cnd c => Bool.rec (eqB op (mkNot c) st K (.cnd c)) (eqB op c st K (.cnd c)) a
  | _ => .bad
noncomputable def binC (op : BinOp) (c : T) (st : St) (K : Kt) : AV → VC
  | .bool b => Bool.rec (eqB op (mkNot c) st K (.cnd c)) (eqB op c st K (.cnd c)) b
  | .cnd d => brK d st (fun st => eqB op c st K (.cnd c)) (fun st => eqB op (mkNot c) st K (.cnd c))
  | _ => .bad
noncomputable def binStr (op : BinOp) (n : Nat) (s : List Nat) (st : St) (K : Kt) : AV → VC
  | .str m t => outK st K (strOp op n s m t)
  | _ => .bad
noncomputable def binG (cx : Cx) (op : BinOp) (t : TypeId) (l : List AV) (st : St) (K : Kt) : AV → VC
  | .agg m => binAgg cx op t l m st K
  | _ => .bad
noncomputable def isBoolD : TypeDesc → Bool
  | .bool => true
  | _ => false
noncomputable def xBin (cx : Cx) (op : BinOp) (t : TypeId) (d : TypeDesc) (c : Bool) (y : AV) (st : St) (K : Kt) : AV → VC
  | .int j a => binI op j a st K y
  | .sym j x => binS op j x st K y
  | .bool a => vif (isBoolD d) (binB op a st K y)
  | .cnd x => vif (isBoolD d) (binC op x st K y)
  | .str n s => binStr op n s st K y
  | .agg l => binG cx op t l st K y
  | x => vbind (eqD c d x y) fun r => outK st K (binFn op r)
noncomputable def xUn (op : UnOp) (st : St) (K : Kt) : AV → VC
  | .bool b => match op with
    | .not => K (.bool (not b)) st
    | _ => .bad
  | .cnd c => match op with
    | .not => K (.cnd (mkNot c)) st
    | _ => .bad
  | .int k a => match op with
    | .neg => K (.int k (Nat.mod (Nat.sub (modOf k) a) (modOf k))) st
    | .xor => K (.int k (Nat.xor a (Nat.sub (modOf k) 1))) st
    | _ => .bad
  | .sym k x => match op with
    | .neg => K (.sym k (.bin .sub k (.z (.ofNat 0)) x)) st
    | .xor => K (.sym k (.bin .xor k (.z (sgn k (Nat.sub (modOf k) 1))) x)) st
    | _ => .bad
  | _ => .bad

/-! ### Memory -/
section
variable (cx : Cx)
noncomputable def AV.cells : AV → List AV
  | .agg l => l
  | v => [v]
noncomputable def ofCellsV (n : Option Nat) (l : List AV) : Option AV := Option.rec (getL 0 l) (fun _ => some (.agg l)) n
noncomputable def Blk.cell (b : Blk) (i : Nat) : Option AV :=
  Option.rec (bif_ (Nat.blt i b.sz) (natCase b.zn none fun j => getL (Nat.mod i (Nat.succ j)) b.z) none) (fun v => some v) (b.cells.get i)
noncomputable def readB (st : St) (i : Nat) : Bid → Option AV
  | .r k => obind (st.heap.get k) fun b => b.cell i
  | .g g => obind (cx.glob.get g) fun t => t.get i
noncomputable def getsB (f : Nat → Option AV) (n : Nat) : Nat → Option (List AV) :=
  Nat.rec (motive := fun _ => Nat → Option (List AV)) (fun _ => some []) (fun _ ih off => obind (f off) fun v => obind (ih (Nat.succ off)) fun vs => some (v :: vs)) n
noncomputable def cellsFrom (st : St) (n off : Nat) : Bid → Option (List AV)
  | .r k => obind (st.heap.get k) fun b => getsB b.cell n off
  | .g g => obind (cx.glob.get g) fun t => getsB t.get n off
noncomputable def loadVar (st : St) (n : Option Nat) (a : AAddr) : Option AV :=
  Option.rec (readB cx st a.off a.b) (fun n => obind (cellsFrom cx st n a.off a.b) fun l => some (.agg l)) n
noncomputable def putsK (l : List AV) : Nat → Tr AV → (Tr AV → VC) → VC :=
  List.rec (motive := fun _ => Nat → Tr AV → (Tr AV → VC) → VC) (fun _ t k => k t) (fun v _ ih off t k => t.setK off (some v) fun t => ih (Nat.succ off) t k) l
noncomputable def puts (l : List AV) : Nat → Tr AV → Tr AV :=
  List.rec (motive := fun _ => Nat → Tr AV → Tr AV) (fun _ t => t) (fun v _ ih off t => ih (Nat.succ off) (t.set off (some v))) l
noncomputable def one1 : AV → Bool
  | .agg _ => false
  | .tuple _ => false
  | _ => true
noncomputable def allOne (l : List AV) : Bool := List.rec (motive := fun _ => Bool) true (fun v _ ih => Bool.rec false ih (one1 v)) l
noncomputable def killOthers (h : Tr Blk) (k : Nat) : List Nat → Tr Blk
  | [] => h
  | j :: r => bif_ (Nat.beq j k) (killOthers h k r) (killOthers (h.set j none) k r)
noncomputable def putBlk (st : St) (k : Nat) (b : Blk) (t : Tr AV) (K : St → VC) : VC :=
  match st, b with
  | ⟨n, nc, h, lv, x⟩, ⟨sz, _, z, zn, fam, cv, es⟩ =>
    Option.rec (h.setK k (some ⟨sz, t, z, zn, fam, cv, es⟩) fun h => K ⟨n, nc, h, lv, x⟩)
      (fun l => (killOthers h k l).setK k (some ⟨sz, t, z, zn, fam, cv, es⟩) fun h => lv.setK fam (some [k]) fun lv => K ⟨n, nc, h, lv, x⟩) (lv.get fam)
noncomputable def storeCells (st : St) (k off : Nat) (vs : List AV) (K : St → VC) : VC :=
  vbind (st.heap.get k) fun b => vif (Nat.ble (Nat.add off (lenL vs)) b.sz && allOne vs) (putsK vs off b.cells fun t => putBlk st k b t K)
noncomputable def newBlk (st : St) (sz : Nat) (t : Tr AV) (z : List AV) (zn : Nat) (K : Nat → St → VC) (cv es : Nat := 0) : VC :=
  match st with
  | ⟨n, nc, h, lv, x⟩ => h.setK n (some ⟨sz, t, z, zn, n, cv, es⟩) fun h => natK (Nat.succ n) fun m => K n ⟨m, nc, h, lv, x⟩
noncomputable def newCells (st : St) (cs : List AV) (K : Nat → St → VC) (cv es : Nat := 0) : VC :=
  putsK cs 0 .nil fun t => natK (lenL cs) fun n => newBlk st n t [] 0 K cv es

noncomputable def evPs (tm : Tm) (l : List (Nat × Nat × BO)) : List (Nat × Nat × AV) :=
  List.rec (motive := fun _ => List (Nat × Nat × AV)) [] (fun p _ ih => (p.1, (p.2.1, ev tm p.2.2)) :: ih) l
noncomputable def buildP : List (Nat × Nat × AV) → List AV → Option (List AV)
  | [], l => some l
  | (off, n, v) :: r, l => bif_ (Nat.beq n (lenL v.cells) && Nat.ble (Nat.add off n) (lenL l)) (buildP r (fillAt off v.cells l)) none

noncomputable def part (n : Option Nat) (l : List AV) (off : Nat) : Option AV :=
  Option.rec (getL off l) (fun n => bif_ (Nat.ble (Nat.add off n) (lenL l)) (some (.agg (takeL n (dropL off l)))) none) n
noncomputable def newPtr (K : Kt) (b : Nat) (st : St) : VC := K (.ptr (some ⟨.r b, 0⟩)) st
noncomputable def xPick (tm : Tm) (st : St) (K : Kt) (a b : BO) : AV → VC
  | .bool true => K (ev tm a) st
  | .bool false => K (ev tm b) st
  | .cnd c => brK c st (fun st => K (ev tm a) st) (fun st => K (ev tm b) st)
  | _ => .bad
noncomputable def asPtr : AV → Option AAddr
  | .ptr (some a) => some a
  | _ => none
noncomputable def xLoad (n : Option Nat) (st : St) (K : Kt) (a : AV) : VC := vbind (asPtr a) fun a => outK st K (loadVar cx st n a)
noncomputable def storeAt (n : Nat) (v : AV) (st : St) (K : Kt) (off : Nat) : Bid → VC
  | .g _ => .bad
  | .r k => vif (Nat.beq n (lenL v.cells)) (storeCells st k off v.cells fun st => K (.tuple []) st)
noncomputable def xStore (n : Nat) (v : AV) (st : St) (K : Kt) (a : AV) : VC := vbind (asPtr a) fun a => storeAt n v st K a.off a.b
noncomputable def xNilc (st : St) (K : Kt) : AV → VC
  | .ptr (some a) => K (.ptr (some a)) st
  | .func (.func f) a b => K (.func (.func f) a b) st
  | .yld l => K (.yld l) st
  | _ => .bad
noncomputable def cellNats : List AV → Option (List Nat)
  | [] => some []
  | .int .u8 n :: r => obind (cellNats r) fun l => some (n :: l)
  | _ => none
noncomputable def byteAVs (l : List Nat) : List AV := List.rec (motive := fun _ => List AV) [] (fun n _ ih => .int .u8 n :: ih) l
noncomputable def xToStr (st : St) (K : Kt) : AV → VC
  | .slice none _ _ => K (.str 0 []) st
  | .sl0 .. => K (.str 0 []) st
  | .slice (some a) n _ => vbind (cellsFrom cx st n a.off a.b) fun l => vbind (cellNats l) fun l => K (.str n l) st
  | _ => .bad
noncomputable def xOfStr (st : St) (K : Kt) (n : Nat) (s : List Nat) : VC :=
  match st with
  | ⟨m, nc, h, lv, x⟩ => natK (Nat.succ nc) fun c => newCells ⟨m, c, h, lv, x⟩ (byteAVs s) (fun b st => K (.slice (some ⟨.r b, 0⟩) n (.u nc 0)) st) c 1
noncomputable def utf8 (c : Nat) : List Nat :=
  bif_ (Nat.blt c 128) [c] (bif_ (Nat.blt c 2048) [Nat.add 192 (Nat.div c 64), Nat.add 128 (Nat.mod c 64)]
    (bif_ (Nat.blt c 65536) [Nat.add 224 (Nat.div c 4096), Nat.add 128 (Nat.mod (Nat.div c 64) 64), Nat.add 128 (Nat.mod c 64)]
      [Nat.add 240 (Nat.div c 262144), Nat.add 128 (Nat.mod (Nat.div c 4096) 64), Nat.add 128 (Nat.mod (Nat.div c 64) 64), Nat.add 128 (Nat.mod c 64)]))
noncomputable def conv1 (st : St) (K : Kt) (eb sm : Bool) : TypeDesc → AV → VC
  | .int k => fun x => match x with
    | .int j u => K (.int k (convU j k u)) st
    | .sym j t => bif_ (kbeq j k) (K (.sym k t) st) (K (.sym k (.conv k t)) st)
    | _ => .bad
  | .string => fun x => match x with
    | .str n s => K (.str n s) st
    | .int k u => vbind (natOf (.int k u)) fun u => vif (Nat.blt u 128) (K (.str 1 [u]) st)
    | x => vif eb (xToStr cx st K x)
  | .slice _ => fun x => match x with
    | .str n s => vif (eb && not sm) (xOfStr st K n s)
    | .slice (some ⟨.r b, off⟩) n c => vif (eb && sm) (K (.slice (some ⟨.r b, off⟩) n c) st)
    | _ => .bad
  | _ => fun _ => .bad
noncomputable def xExt (i : Nat) (st : St) (K : Kt) : AV → VC
  | .tuple l => outK st K (getL i l)
  | _ => .bad
noncomputable def xFadr (off : Nat) (st : St) (K : Kt) (a : AV) : VC := vbind (asPtr a) fun a => natK (Nat.add a.off off) fun o => K (.ptr (some ⟨a.b, o⟩)) st
noncomputable def asAgg : AV → Option (List AV)
  | .agg l => some l
  | _ => none
noncomputable def xFld (n : Option Nat) (off : Nat) (st : St) (K : Kt) (x : AV) : VC := vbind (asAgg x) fun l => outK st K (part n l off)
noncomputable def elemK (es : Nat) (a : AAddr) (K : Kt) (i : Nat) (st : St) : VC := natK (Nat.add a.off (Nat.mul i es)) fun o => K (.ptr (some ⟨a.b, o⟩)) st
noncomputable def xIadrA (n es : Nat) (i : AV) (st : St) (K : Kt) (x : AV) : VC := vbind (asPtr x) fun a => idxK i n st (elemK es a K)
noncomputable def xIadrS (es : Nat) (i : AV) (st : St) (K : Kt) : AV → VC
  | .slice (some a) n _ => idxK i n st (elemK es a K)
  | _ => .bad
noncomputable def xIdxA (n es : Nat) (m : Option Nat) (i : AV) (st : St) (K : Kt) (x : AV) : VC := vbind (asAgg x) fun l => idxK i n st fun i st => outK st K (part m l (Nat.mul i es))
noncomputable def u8O (o : Option Nat) : Option AV := Option.rec none (fun u => some (.int .u8 u)) o
noncomputable def xIdxS (i : AV) (st : St) (K : Kt) : AV → VC
  | .str n s => idxK i n st fun i st => outK st K (u8O (getL i s))
  | _ => .bad
noncomputable def xMksl (es zn : Nat) (z : List AV) (st : St) (K : Kt) (l c : AV) : VC :=
  vbind (natOf l) fun l => vbind (natOf c) fun c => vif (Nat.ble l c && Nat.ble c 16777216) (natK (Nat.mul c es) fun sz => newBlk st sz .nil z zn fun b st => K (.slice (some ⟨.r b, 0⟩) l (.k c)) st)
noncomputable def bndK (tm : Tm) (d m : Nat) (st : St) (k : Nat → St → VC) (o : Option BO) : VC :=
  Option.rec (k d st) (fun o => idxK (ev tm o) (Nat.succ m) st k) o
noncomputable def addO (a : Option AAddr) (n : Nat) : Option AAddr := Option.rec none (fun a => some ⟨a.b, Nat.add a.off n⟩) a
noncomputable def mkSl (K : Kt) (st : St) (a : Option AAddr) (n : Nat) (c : Cap) : VC :=
  Option.rec (K (.slice none n c) st) (fun a => natK a.off fun o => K (.slice (some ⟨a.b, o⟩) n c) st) a
noncomputable def cutK (es : Nat) (a : Option AAddr) (c : Nat) (K : Kt) (l h m : Nat) (st : St) : VC :=
  vif (Nat.ble l h && (Nat.ble h m && Nat.ble m c)) (natK (Nat.sub h l) fun n => natK (Nat.sub m l) fun c => mkSl K st (bif_ (Nat.beq m l) a (addO a (Nat.mul l es))) n (.k c))
/-- How many places there are at least. -/
noncomputable def knownU (es i sub n : Nat) (st : St) : Option AAddr → Nat
  | some ⟨.r k, off⟩ => Option.rec n (fun b => bif_ (Nat.beq b.cv (Nat.succ i) && (Nat.beq b.es es && (Nat.beq off (Nat.mul sub es) && Nat.blt 0 es))) (Nat.sub (Nat.div b.sz es) sub) n) (st.heap.get k)
  | _ => n
/-- An empty slice, somewhere. -/
noncomputable def newSl0 (es i sub l : Nat) (K : Kt) (st : St) (a : AAddr) : VC :=
  natK a.off fun o => natK (Nat.add sub l) fun n => natK (Nat.mul l es) fun d => K (.sl0 ⟨a.b, o⟩ i n d) st
noncomputable def cutU (es : Nat) (a : Option AAddr) (n i sub : Nat) (K : Kt) (l h : Nat) (st : St) : VC :=
  vif (Nat.ble l h && Nat.ble h n) (bif_ (Nat.beq l 0 || Nat.blt l n) (natK (Nat.sub h l) fun m => natK (Nat.add sub l) fun s => mkSl K st (addO a (Nat.mul l es)) m (.u i s)) (Option.rec .bad (fun a => newSl0 es i sub l K st a) a))
noncomputable def cutUM (es : Nat) (a : Option AAddr) (n : Nat) (K : Kt) (l h m : Nat) (st : St) : VC :=
  vif (Nat.ble l h && (Nat.ble h m && Nat.ble m n)) (natK (Nat.sub h l) fun x => natK (Nat.sub m l) fun c => mkSl K st (bif_ (Nat.beq m l) a (addO a (Nat.mul l es))) x (.k c))
noncomputable def xSlS (tm : Tm) (es : Nat) (st : St) (K : Kt) (lo hi : Option BO) : Option BO → AV → VC
  | none => fun x => match x with
    | .slice a n (.k c) => bndK tm n c st (fun h st => bndK tm 0 h st (fun l st => cutK es a c K l h c st) lo) hi
    | .sl0 a i n d => bndK tm 0 0 st (fun _ st => bndK tm 0 0 st (fun _ st => K (.sl0 a i n d) st) lo) hi
    | .slice a n (.u i sub) => natK (knownU es i sub n st a) fun m => bndK tm n m st (fun h st => bndK tm 0 h st (fun l st => cutU es a m i sub K l h st) lo) hi
    | _ => .bad
  | some mx => fun x => match x with
    | .slice a n (.k c) => idxK (ev tm mx) (Nat.succ c) st fun m st => bndK tm n m st (fun h st => bndK tm 0 h st (fun l st => cutK es a c K l h m st) lo) hi
    | .slice a n (.u _ _) => idxK (ev tm mx) (Nat.succ n) st fun m st => bndK tm n m st (fun h st => bndK tm 0 h st (fun l st => cutUM es a n K l h m st) lo) hi
    | _ => .bad
noncomputable def cutA (es : Nat) (a : AAddr) (n : Nat) (K : Kt) (l h m : Nat) (st : St) : VC :=
  vif (Nat.ble l h && (Nat.ble h m && Nat.ble m n)) (natK (Nat.sub h l) fun x => natK (Nat.sub m l) fun c => natK (bif_ (Nat.beq m l) a.off (Nat.add a.off (Nat.mul l es))) fun o => K (.slice (some ⟨a.b, o⟩) x (.k c)) st)
noncomputable def xSlA (tm : Tm) (n es : Nat) (st : St) (K : Kt) (lo hi : Option BO) (mx : Option BO) (x : AV) : VC :=
  vbind (asPtr x) fun a => bndK tm n n st (fun m st => bndK tm n m st (fun h st => bndK tm 0 h st (fun l st => cutA es a n K l h m st) lo) hi) mx
noncomputable def xSlT (tm : Tm) (st : St) (K : Kt) (lo hi : Option BO) : AV → VC
  | .str n s => bndK tm n n st (fun h st => bndK tm 0 h st (fun l st => vif (Nat.ble l h) (natK (Nat.sub h l) fun m => K (.str m (takeL m (dropL l s))) st)) lo) hi
  | _ => .bad
noncomputable def xS2a (n : Nat) (st : St) (K : Kt) : AV → VC
  | .slice a m _ => vif (Nat.ble n m) (K (.ptr a) st)
  | _ => .bad
noncomputable def xTass (t : TypeId) (z : AV) (ok : Bool) (st : St) (K : Kt) : AV → VC
  | .nilIface => vif ok (K (.tuple [z, .bool false]) st)
  | .iface u v => bif_ (Nat.beq u t) (Bool.rec (K v st) (K (.tuple [v, .bool true]) st) ok) (vif ok (K (.tuple [z, .bool false]) st))
  | _ => .bad
noncomputable def lenK (n : Nat) (st : St) (K : Kt) : VC := vif (Nat.blt n 9223372036854775808) (K (.int .i64 n) st)
noncomputable def xLen (s : Bool) (st : St) (K : Kt) : AV → VC
  | .slice _ n _ => vif (not s) (lenK n st K)
  | .sl0 .. => vif (not s) (K (.int .i64 0) st)
  | .str n _ => vif s (lenK n st K)
  | _ => .bad
noncomputable def xCap (st : St) (K : Kt) : AV → VC
  | .slice _ _ (.k c) => lenK c st K
  | _ => .bad
noncomputable def lenOf : AV → Option Nat
  | .slice _ n _ => some n
  | .sl0 .. => some 0
  | .str n _ => some n
  | _ => none
noncomputable def srcCells (st : St) (es n : Nat) : AV → Option (List AV)
  | .slice (some a) _ _ => cellsFrom cx st (Nat.mul n es) a.off a.b
  | .slice none _ _ => some []
  | .sl0 .. => some []
  | .str _ s => bif_ (Nat.beq es 1) (some (byteAVs (takeL n s))) none
  | _ => none
noncomputable def cutTr (t : Tr AV) (n : Nat) : Nat → Tr AV :=
  Nat.rec (motive := fun _ => Tr AV → Nat → Tr AV) (fun t _ => t) (fun _ ih t i => ih (t.set i none) (Nat.succ i)) n t
noncomputable def appNew (st : St) (K : Kt) (es len : Nat) (cs : List AV) : VC :=
  match st with
  | ⟨m, nc, h, lv, x⟩ => natK (Nat.succ nc) fun c => newCells ⟨m, c, h, lv, x⟩ cs (fun b st => K (.slice (some ⟨.r b, 0⟩) len (.u nc 0)) st) c es
noncomputable def appIn (st : St) (K : Kt) (es n len c : Nat) (new : List AV) : Option AAddr → VC
  | some ⟨.r b, off⟩ => storeCells st b (Nat.add off (Nat.mul n es)) new fun st => K (.slice (some ⟨.r b, off⟩) len (.k c)) st
  | some ⟨.g _, _⟩ => .bad
  | none => K (.slice none len (.k c)) st
noncomputable def famOf (st : St) (b : Blk) (k : Nat) : List Nat := Option.rec [k] (fun l => l) (st.live.get b.fam)
noncomputable def appU (st : St) (K : Kt) (es n len : Nat) (old new : List AV) (id off : Nat) (b : Blk) : VC :=
  (killOthers st.heap id (famOf st b id)).setK id (some ⟨Nat.add off (Nat.mul n es), cutTr b.cells (Nat.sub b.sz (Nat.add off (Nat.mul n es))) (Nat.add off (Nat.mul n es)), [], 0, b.fam, b.cv, b.es⟩) fun h =>
  putsK (old ++ new) 0 .nil fun t => natK (Nat.succ st.nc) fun c => natK st.n fun m => natK (lenL (old ++ new)) fun sz => h.setK m (some ⟨sz, t, [], 0, b.fam, c, es⟩) fun h => st.live.setK b.fam (some [id, m]) fun lv =>
    natK (Nat.succ m) fun m' => K (.slice (some ⟨.r m, 0⟩) len (.u st.nc 0)) ⟨m', c, h, lv, st.x⟩
noncomputable def append (st : St) (K : Kt) (es : Nat) (a : Option AAddr) (n len : Nat) (new old : List AV) : Cap → VC
  | .k c => bif_ (Nat.ble len c) (appIn st K es n len c new a) (appNew st K es len (old ++ new))
  | .u i sub => match a with
    | some ⟨.r id, off⟩ => bif_ (Nat.ble len (knownU es i sub n st (some ⟨.r id, off⟩))) (storeCells st id (Nat.add off (Nat.mul n es)) new fun st => K (.slice (some ⟨.r id, off⟩) len (.u i sub)) st) <| vbind (st.heap.get id) fun b => vif (Nat.beq b.cv (Nat.succ i) && (Nat.beq b.es es && (Nat.beq off (Nat.mul sub es) && (allOne new && (Nat.beq b.zn 0 && Nat.ble (Nat.add off (Nat.mul n es)) b.sz))))) (appU st K es n len old new id off b)
    | _ => .bad
  | .t _ => .bad
noncomputable def xAppend (es : Nat) (x : AV) (st : St) (K : Kt) : AV → VC
  | .slice a n c => vbind (lenOf x) fun m => vbind (srcCells cx st es m x) fun new => vbind (srcCells cx st es n (.slice a n c)) fun old =>
    natK (Nat.add n m) fun len => vif (Nat.ble (Nat.mul len (Nat.succ es)) 16777216) (append st K es a n len new old c)
  | _ => .bad
noncomputable def xCopy (es : Nat) (s : AV) (st : St) (K : Kt) : AV → VC
  | .slice (some ⟨.r b, off⟩) n _ => vbind (lenOf s) fun m => natK (nmin m n) fun c => vbind (srcCells cx st es c s) fun l =>
    storeCells st b off l fun st => lenK c st K
  | .slice none _ _ => vbind (lenOf s) fun _ => K (.int .i64 0) st
  | _ => .bad
noncomputable def xClearS (_es : Nat) (z : List AV) (st : St) (K : Kt) : AV → VC
  | .slice none _ _ => K (.tuple []) st
  | .sl0 .. => K (.tuple []) st
  | .slice (some ⟨.r b, off⟩) n _ => storeCells st b off (repL n z) fun st => K (.tuple []) st
  | _ => .bad
noncomputable def mm2 (mx : Bool) (st : St) (K : Kt) : AV → AV → VC
  | .int j a, .int k b => vif (kbeq j k) (bif_ (Bool.rec (sltU (halfOf j) b a) (sltU (halfOf j) a b) mx) (K (.int j b) st) (K (.int j a) st))
  | x, y => vbind (toT x) fun p => vbind (toT y) fun q => vif (kbeq p.1 q.1) (brK (mkCmp (Bool.rec .lss .gtr mx) q.2 p.2) st (fun st => K y st) (fun st => K x st))
noncomputable def mmL (mx : Bool) (l : List AV) : AV → St → Kt → VC :=
  List.rec (motive := fun _ => AV → St → Kt → VC) (fun v st K => K v st) (fun x _ ih v st K => mm2 mx st (fun v st => ih v st K) v x) l
noncomputable def xMinmax (mx : Bool) (st : St) (K : Kt) : List AV → VC
  | [] => .bad
  | v :: l => mmL mx l v st K
end

/-! ### Maps -/
noncomputable def withO (st : St) (r : Nat) (o : Ob) (K : St → VC) : VC :=
  match st with
  | ⟨n, nc, h, lv, ⟨objs, sh, f, nz, na, no, l⟩⟩ => objs.setK r (some o) fun objs => K ⟨n, nc, h, lv, ⟨objs, sh, f, nz, na, no, l⟩⟩
noncomputable def newO (st : St) (o : Ob) (K : Nat → St → VC) : VC :=
  match st with
  | ⟨n, nc, h, lv, ⟨objs, sh, f, nz, na, no, l⟩⟩ => objs.setK n (some o) fun objs => natK (Nat.succ n) fun m => K n ⟨m, nc, h, lv, ⟨objs, sh, f, nz, na, no, l⟩⟩
noncomputable def sameK : TypeDesc → AV → AV → Option Bool
  | .int _ => fun a b => match a, b with
    | .int j a, .int k b => bif_ (kbeq j k) (some (Nat.beq a b)) none
    | _, _ => none
  | .string => fun a b => match a, b with
    | .str _ s, .str _ t => some (leqL s t)
    | _, _ => none
  | .bool => fun a b => match a, b with
    | .bool a, .bool b => some (bbeq a b)
    | _, _ => none
  | _ => fun _ _ => none
/-- The place of a key: none of them; not known. -/
noncomputable def findM (kt : TypeDesc) (k : AV) (es : List (AV × AV × Nat)) : Nat → Option (Option (Nat × AV × Nat)) :=
  List.rec (motive := fun _ => Nat → Option (Option (Nat × AV × Nat))) (fun _ => some none)
    (fun e _ ih i => obind (sameK kt k e.1) fun b => Bool.rec (ih (Nat.succ i)) (some (some (i, e.2))) b) es
noncomputable def keyOK : TypeDesc → AV → Bool
  | .int _ => fun x => match x with
    | .int _ _ => true
    | _ => false
  | .string => fun x => match x with
    | .str _ _ => true
    | _ => false
  | .bool => fun x => match x with
    | .bool _ => true
    | _ => false
  | _ => fun _ => false
noncomputable def mapOf (st : St) (r : Nat) : Option (List (AV × AV × Nat) × Nat) :=
  obind (st.x.objs.get r) fun o => match o with
    | .map es c => some (es, c)
    | _ => none
noncomputable def xMlen (st : St) (K : Kt) : AV → VC
  | .map none => K (.int .i64 0) st
  | .map (some r) => vbind (mapOf st r) fun m => natK (lenL m.1) fun n => lenK n st K
  | _ => .bad
noncomputable def lookR (z : AV) (ok : Bool) (st : St) (K : Kt) : Option (Nat × AV × Nat) → VC
  | some p => Bool.rec (K p.2.1 st) (K (.tuple [p.2.1, .bool true]) st) ok
  | none => Bool.rec (K z st) (K (.tuple [z, .bool false]) st) ok
noncomputable def xMlook (kt : TypeDesc) (z : AV) (ok : Bool) (k : AV) (st : St) (K : Kt) : AV → VC
  | .map none => vif (keyOK kt k) (lookR z ok st K none)
  | .map (some r) => vif (keyOK kt k) (vbind (mapOf st r) fun m => vbind (findM kt k m.1 0) (lookR z ok st K))
  | _ => .bad
noncomputable def putR (k v : AV) (r : Nat) (es : List (AV × AV × Nat)) (c : Nat) (st : St) (K : Kt) : Option (Nat × AV × Nat) → VC
  | some p => withO st r (.map (setL p.1 (k, (v, p.2.2)) es) c) (K (.tuple []))
  | none => natK (Nat.succ c) fun d => withO st r (.map (es ++ [(k, (v, c))]) d) (K (.tuple []))
noncomputable def xMput (kt : TypeDesc) (k v : AV) (st : St) (K : Kt) : AV → VC
  | .map (some r) => vif (keyOK kt k) (vbind (mapOf st r) fun m => vbind (findM kt k m.1 0) (putR k v r m.1 m.2 st K))
  | _ => .bad
noncomputable def delAt {α : Type} : Nat → List α → List α
  | _, [] => []
  | 0, _ :: r => r
  | n + 1, x :: r => x :: delAt n r
noncomputable def delR (r : Nat) (es : List (AV × AV × Nat)) (c : Nat) (st : St) (K : Kt) : Option (Nat × AV × Nat) → VC
  | some p => withO st r (.map (delAt p.1 es) c) (K (.tuple []))
  | none => K (.tuple []) st
noncomputable def xMdel (kt : TypeDesc) (k : AV) (st : St) (K : Kt) : AV → VC
  | .map none => vif (keyOK kt k) (K (.tuple []) st)
  | .map (some r) => vif (keyOK kt k) (vbind (mapOf st r) fun m => vbind (findM kt k m.1 0) (delR r m.1 m.2 st K))
  | _ => .bad
noncomputable def xMclear (st : St) (K : Kt) : AV → VC
  | .map none => K (.tuple []) st
  | .map (some r) => vbind (mapOf st r) fun m => withO st r (.map [] m.2) (K (.tuple []))
  | _ => .bad
noncomputable def entR (k z : AV) (r : Nat) (es : List (AV × AV × Nat)) (c : Nat) (st : St) (K : Kt) : Option (Nat × AV × Nat) → VC
  | some p => vif (Nat.blt p.2.2 9223372036854775808) (withO st r (.map (setL p.1 (k, p.2) es) c) (K (.tuple [p.2.1, .int .i64 p.2.2])))
  | none => vif (Nat.blt c 9223372036854775808) (natK (Nat.succ c) fun d => withO st r (.map (es ++ [(k, (z, c))]) d) (K (.tuple [z, .int .i64 c])))
noncomputable def xMentry (kt : TypeDesc) (z k : AV) (st : St) (K : Kt) : AV → VC
  | .map (some r) => vif (keyOK kt k) (vbind (mapOf st r) fun m => vbind (findM kt k m.1 0) (entR k z r m.1 m.2 st K))
  | _ => .bad
noncomputable def bornAt (n : Nat) (es : List (AV × AV × Nat)) : Nat → Option (Nat × AV × AV × Nat) :=
  List.rec (motive := fun _ => Nat → Option (Nat × AV × AV × Nat)) (fun _ => none) (fun e _ ih i => bif_ (Nat.beq e.2.2 n) (some (i, e)) (ih (Nat.succ i))) es
noncomputable def xMstore (s v : AV) (st : St) (K : Kt) : AV → VC
  | .map (some r) => vbind (natOf s) fun n => vbind (mapOf st r) fun m => vbind (bornAt n m.1 0) fun p => withO st r (.map (setL p.1 (p.2.1, (v, p.2.2.2)) m.1) m.2) (K (.tuple []))
  | _ => .bad
noncomputable def xRngM (st : St) (K : Kt) : AV → VC
  | .map none => newO st (.mapIt none 0 [] 0) (newPtr K)
  | .map (some r) => vbind (mapOf st r) fun m => newO st (.mapIt (some r) m.2 [] m.2) (newPtr K)
  | _ => .bad
noncomputable def xRngT (st : St) (K : Kt) : AV → VC
  | .str n s => newO st (.strIt n s 0) (newPtr K)
  | _ => .bad
noncomputable def memN (n : Nat) (l : List Nat) : Bool := List.rec (motive := fun _ => Bool) false (fun x _ ih => Bool.rec ih true (Nat.beq x n)) l
noncomputable def isNil {α : Type} : List α → Bool
  | [] => true
  | _ => false
noncomputable def leftM (es : List (AV × AV × Nat)) (seen : List Nat) : List (AV × AV × Nat) :=
  List.rec (motive := fun _ => List (AV × AV × Nat)) [] (fun e _ ih => bif_ (memN e.2.2 seen) ih (e :: ih)) es
noncomputable def allBorn (n : Nat) (lt : Bool) (es : List (AV × AV × Nat)) : Bool :=
  List.rec (motive := fun _ => Bool) true (fun e _ ih => bif_ (bbeq lt (Nat.blt e.2.2 n)) ih false) es
noncomputable def eachM (r m since stepped : Nat) (seen : List Nat) (st : St) (K : Kt) (l : List (AV × AV × Nat)) : VC :=
  List.rec (motive := fun _ => VC) .ok (fun e _ ih => .both (withO st r (.mapIt (some m) since (seen ++ [e.2.2]) stepped) (K (.tuple [.bool true, e.1, e.2.1]))) ih) l
/-- None of them was put in since the beginning. -/
noncomputable def stepM (r m since : Nat) (seen : List Nat) (last : Nat) (st : St) (K : Kt) (es : List (AV × AV × Nat)) (c : Nat) : VC :=
  vif (not (not (isNil seen) && (not (isNil es) && allBorn last false es)) && allBorn since true (leftM es seen))
    (bif_ (isNil (leftM es seen)) (K (.tuple [.bool false]) st) (eachM r m since c seen st K (leftM es seen)))
noncomputable def itOf : AV → Option Nat
  | .ptr (some ⟨.r r, 0⟩) => some r
  | _ => none
noncomputable def nextMO (r : Nat) (st : St) (K : Kt) : Option Ob → VC
  | some (.mapIt none _ _ _) => K (.tuple [.bool false]) st
  | some (.mapIt (some m) since seen last) => vbind (mapOf st m) fun e => stepM r m since seen last st K e.1 e.2
  | _ => .bad
noncomputable def xNextM (st : St) (K : Kt) (x : AV) : VC := vbind (itOf x) fun r => nextMO r st K (st.x.objs.get r)
noncomputable def nextTO (r : Nat) (st : St) (K : Kt) : Option Ob → VC
  | some (.strIt n s pos) => bif_ (Nat.blt pos n) (vbind (getL pos s) fun c => vif (Nat.blt c 128 && Nat.blt pos 9223372036854775808) (natK (Nat.succ pos) fun p => withO st r (.strIt n s p) (K (.tuple [.bool true, .int .i64 pos, .int .i32 c])))) (K (.tuple [.bool false]) st)
  | _ => .bad
noncomputable def xNextT (st : St) (K : Kt) (x : AV) : VC := vbind (itOf x) fun r => nextTO r st K (st.x.objs.get r)

noncomputable def lastL (l : List Nat) : Option Nat := List.rec (motive := fun _ => Option Nat) none (fun x _ ih => Option.rec (some x) (fun y => some y) ih) l
noncomputable def entryO (st : St) (K : Kt) : Option Ob → VC
  | some (.mapIt (some m) _ seen c) => vbind (lastL seen) fun n => vbind (mapOf st m) fun e => vif (Nat.beq e.2 c) (vbind (bornAt n e.1 0) fun p => K (.tuple [p.2.1, p.2.2.1]) st)
  | _ => .bad
noncomputable def xEntry (st : St) (K : Kt) (x : AV) : VC := vbind (itOf x) fun r => entryO st K (st.x.objs.get r)

/-! ### All operations -/
inductive Ex where
  | normal
  | exit (id : Nat)
  | goto (l : Nat)
  | ret
inductive Task where
  | code (c : BC) (tm : Tm) (ds : List Nat) (rd : Option Nat)
  | loop (an : Option Nat) (c : BC) (tm : Tm) (ds : List Nat) (rd : Option Nat)
  | call (f : FuncId) (args : List AV)
  | round (l : Nat) (args : List AV)
inductive Res where
  | code (e : Ex) (tm : Tm) (ds : List Nat) (st : St)
  | val (v : AV) (st : St)
abbrev Rec := Task → St → (Res → VC) → VC

noncomputable def valK (K : Kt) : Res → VC
  | .val v st => K v st
  | _ => .bad
noncomputable def app3 (a b c : List AV) : List AV := a ++ (b ++ c)
noncomputable def xCallv (rec : Rec) (args : List AV) (st : St) (K : Kt) : AV → VC
  | .func (.func f) a b => rec (.call f (app3 a args b)) st (valK K)
  | .yld l => rec (.round l args) st (valK K)
  | _ => .bad
noncomputable def xop : BOp → Cx → Rec → Tm → St → Kt → VC
  | .mov x => fun _ _ tm st K => K (ev tm x) st
  | .pick c a b => fun _ _ tm st K => xPick tm st K a b (ev tm c)
  | .alloc n zn z => fun _ _ _ st K => newBlk st n .nil z zn (newPtr K)
  | .box x => fun _ _ tm st K => newCells st (ev tm x).cells (newPtr K)
  | .build z ps => fun _ _ tm st K => vbind (buildP (evPs tm ps) z) fun l => K (.agg l) st
  | .bslice len _ z ps => fun _ _ tm st K => vbind (buildP (evPs tm ps) z) fun l => newCells st l fun b st => K (.slice (some ⟨.r b, 0⟩) len (.k len)) st
  | .load n a => fun cx _ tm st K => xLoad cx n st K (ev tm a)
  | .store n a x => fun _ _ tm st K => xStore n (ev tm x) st K (ev tm a)
  | .nilc x => fun _ _ tm st K => xNilc st K (ev tm x)
  | .bin op t d c x y => fun cx _ tm st K => xBin cx op t d c (ev tm y) st K (ev tm x)
  | .un op x => fun _ _ tm st K => xUn op st K (ev tm x)
  | .conv _ d eb sm x => fun cx _ tm st K => conv1 cx st K eb sm d (ev tm x)
  | .mkf fn a b => fun _ _ tm st K => K (.func fn (evs tm a) (evs tm b)) st
  | .mki t x => fun _ _ tm st K => K (.iface t (ev tm x)) st
  | .ext x i => fun _ _ tm st K => xExt i st K (ev tm x)
  | .fadr off a => fun _ _ tm st K => xFadr off st K (ev tm a)
  | .fld n off x => fun _ _ tm st K => xFld n off st K (ev tm x)
  | .iadrA n es x i => fun _ _ tm st K => xIadrA n es (ev tm i) st K (ev tm x)
  | .iadrS es x i => fun _ _ tm st K => xIadrS es (ev tm i) st K (ev tm x)
  | .idxA n es m x i => fun _ _ tm st K => xIdxA n es m (ev tm i) st K (ev tm x)
  | .idxS x i => fun _ _ tm st K => xIdxS (ev tm i) st K (ev tm x)
  | .mksl es zn z l c => fun _ _ tm st K => xMksl es zn z st K (ev tm l) (ev tm c)
  | .slS es x lo hi mx => fun _ _ tm st K => xSlS tm es st K lo hi mx (ev tm x)
  | .slA n es x lo hi mx => fun _ _ tm st K => xSlA tm n es st K lo hi mx (ev tm x)
  | .slT x lo hi => fun _ _ tm st K => xSlT tm st K lo hi (ev tm x)
  | .s2a n x => fun _ _ tm st K => xS2a n st K (ev tm x)
  | .tass t z ok x => fun _ _ tm st K => xTass t z ok st K (ev tm x)
  | .callv f args => fun _ rec tm st K => xCallv rec (evs tm args) st K (ev tm f)
  | .callf f args => fun _ rec tm st K => rec (.call f (evs tm args)) st (valK K)
  | .len n s x => fun _ _ tm st K => Option.rec (xLen s st K (ev tm x)) (fun n => lenK n st K) n
  | .cap n x => fun _ _ tm st K => Option.rec (xCap st K (ev tm x)) (fun n => lenK n st K) n
  | .mlen x => fun _ _ tm st K => xMlen st K (ev tm x)
  | .clearS es z x => fun _ _ tm st K => xClearS es z st K (ev tm x)
  | .append es s x => fun cx _ tm st K => xAppend cx es (ev tm x) st K (ev tm s)
  | .copy es d s => fun cx _ tm st K => xCopy cx es (ev tm s) st K (ev tm d)
  | .minmax mx l => fun _ _ tm st K => xMinmax mx st K (evs tm l)
  | .mkmap => fun _ _ _ st K => newO st (.map [] 0) fun r st => K (.map (some r)) st
  | .mlook kt z ok m k => fun _ _ tm st K => xMlook kt z ok (ev tm k) st K (ev tm m)
  | .mput kt m k v => fun _ _ tm st K => xMput kt (ev tm k) (ev tm v) st K (ev tm m)
  | .mdel kt m k => fun _ _ tm st K => xMdel kt (ev tm k) st K (ev tm m)
  | .mclear m => fun _ _ tm st K => xMclear st K (ev tm m)
  | .mentry kt z m k => fun _ _ tm st K => xMentry kt z (ev tm k) st K (ev tm m)
  | .mstore m s v => fun _ _ tm st K => xMstore (ev tm s) (ev tm v) st K (ev tm m)
  | .rngM x => fun _ _ tm st K => xRngM st K (ev tm x)
  | .rngT x => fun _ _ tm st K => xRngT st K (ev tm x)
  | .nextM x => fun _ _ tm st K => xNextM st K (ev tm x)
  | .nextT x => fun _ _ tm st K => xNextT st K (ev tm x)
  | .entry x => fun _ _ tm st K => xEntry st K (ev tm x)
  | .bad => fun _ _ _ _ _ => .bad

/-! ### Functions without a body -/
abbrev Con := List AV → St → (AV → St → VC) → VC
noncomputable def conSub64 : Con := fun args st K => match args with
  | [.int .u64 x, .int .u64 y, .int .u64 b] => vif (Nat.ble b 1) (natK (Nat.mod (Nat.sub (Nat.sub (Nat.add x 18446744073709551616) y) b) 18446744073709551616) fun d => K (.tuple [.int .u64 d, .int .u64 (bif_ (Nat.blt x (Nat.add y b)) 1 0)]) st)
  | _ => .bad
noncomputable def conClone : Con := fun args st K => match args with
  | [.iface t (.map (some r))] => vbind (mapOf st r) fun m => newO st (.map m.1 m.2) fun r st => K (.iface t (.map (some r))) st
  | _ => .bad
noncomputable def extF (name : String) : Option Con :=
  bif_ (name == "math/bits.Sub64") (some conSub64) (bif_ (name == "maps.clone") (some conClone) none)
/-! ### Statements, calls -/
noncomputable def same : Bool → Bool → Bool
  | true, b => b
  | false, b => not b
noncomputable def guardV (pol : Bool) (st : St) (y n : St → VC) : AV → VC
  | .bool b => Bool.rec (n st) (y st) (same pol b)
  | .cnd c => Bool.rec (brK c st n y) (brK c st y n) pol
  | .opq _ => .bad
  | _ => n st
noncomputable def guardK (tm : Tm) (g : Option (Px × Bool)) (st : St) (y n : St → VC) : VC :=
  Option.rec (y st) (fun g => guardV g.2 st y n (slot tm g.1)) g
noncomputable def operK (cx : Cx) (rec : Rec) (o : BOper) (tm : Tm) (st : St) (k : Tm → St → VC) : VC :=
  guardK tm o.g st (fun st => xop o.op cx rec tm st fun v st => putDK tm v (fun tm => k tm st) o.dst) (fun st => putDK tm (.tuple []) (fun tm => k tm st) o.dst)
noncomputable def opsK (cx : Cx) (rec : Rec) (l : List BOper) : Tm → St → (Tm → St → VC) → VC :=
  List.rec (motive := fun _ => Tm → St → (Tm → St → VC) → VC) (fun tm st k => k tm st) (fun o _ ih tm st k => operK cx rec o tm st fun tm st => ih tm st k) l

noncomputable def sameB : Bid → Bid → Bool
  | .g a, .g b => Nat.beq a b
  | .r a, .r b => Nat.beq a b
  | _, _ => false
noncomputable def sameC : Cap → Cap → Bool
  | .k a, .k b => Nat.beq a b
  | .u i s, .u j t => Nat.beq i j && Nat.beq s t
  | .t a, .t b => T.beq a b
  | _, _ => false
noncomputable def sameA : Option AAddr → Option AAddr → Bool
  | none, none => true
  | some a, some b => sameB a.b b.b && Nat.beq a.off b.off
  | _, _ => false
noncomputable def sameO : Option Nat → Option Nat → Bool
  | none, none => true
  | some a, some b => Nat.beq a b
  | _, _ => false
mutual
noncomputable def AV.same : AV → AV → Bool
  | .bool a, .bool b => bbeq a b
  | .int k a, .int j b => kbeq k j && Nat.beq a b
  | .sym k a, .sym j b => kbeq k j && T.beq a b
  | .cnd a, .cnd b => T.beq a b
  | .str n s, .str m t => Nat.beq n m && leqL s t
  | .ptr a, .ptr b => sameA a b
  | .slice a n c, .slice b m d => sameA a b && (Nat.beq n m && sameC c d)
  | .nilFunc, .nilFunc => true
  | .nilIface, .nilIface => true
  | .map a, .map b => sameO a b
  | .agg l, .agg m => sameL l m
  | .opq i, .opq j => Nat.beq i j
  | .yld i, .yld j => Nat.beq i j
  | .sl0 a i n d, .sl0 b j m e => sameA (some a) (some b) && (Nat.beq i j && (Nat.beq n m && Nat.beq d e))
  | .iface t a, .iface u b => Nat.beq t u && AV.same a b
  | .func (.func f) a b, .func (.func g) c d => Nat.beq f g && (sameL a c && sameL b d)
  | _, _ => false
noncomputable def sameL : List AV → List AV → Bool
  | [], [] => true
  | a :: l, b :: m => AV.same a b && sameL l m
  | _, _ => false
end
structure Ld where
  i : Nat
  n : Option Nat
  a : AAddr
  v : AV
noncomputable def ldAt (cx : Cx) (l : Ld) (st : St) : Bool := Option.rec false (fun v => AV.same v l.v) (loadVar cx st l.n l.a)
/-- What was loaded, and may still be, is as it was. -/
noncomputable def ldsOK (cx : Cx) (st : St) (m : Nat) (lds : List Ld) : Bool :=
  List.rec (motive := fun _ => Bool) true (fun l _ ih => bif_ (Nat.testBit m l.i) ih (ldAt cx l st && ih)) lds
noncomputable def noteL (i : Nat) (tm : Tm) (v : AV) (lds : List Ld) : BOp → List Ld
  | .load n a => match asPtr (ev tm a) with
    | some x => ⟨i, n, x, v⟩ :: lds
    | none => lds
  | _ => lds
noncomputable def schK (cx : Cx) (rec : Rec) (s : Sch) : Tm → St → List Ld → (Tm → St → VC) → VC :=
  Sch.rec (motive := fun _ => Tm → St → List Ld → (Tm → St → VC) → VC)
    (fun tm st _ k => k tm st)
    (fun i o _ ih tm st lds k => guardK tm o.g st (fun st => xop o.op cx rec tm st fun v st => putDK tm v (fun tm' => ih tm' st (noteL i tm v lds o.op) k) o.dst) (fun st => putDK tm (.tuple []) (fun tm => ih tm st lds k) o.dst))
    (fun _ m o _ ih tm st lds k => guardK tm o.g st (fun st => xop o.op cx rec tm st fun v st => vif (ldsOK cx st m lds) (putDK tm v (fun tm => ih tm st lds k) o.dst)) (fun st => putDK tm (.tuple []) (fun tm => ih tm st lds k) o.dst))
    (fun _ _ p q tm st lds k => .both (p tm st lds k) (q tm st lds k))
    (fun _ _ _ _ => .bad) s

noncomputable def seqK (rec : Rec) (b : BC) (rd : Option Nat) (K : Res → VC) : Res → VC
  | .code .normal tm ds st => rec (.code b tm ds rd) st K
  | r => K r
noncomputable def loopK (rec : Rec) (an : Option Nat) (b : BC) (rd : Option Nat) (K : Res → VC) : Res → VC
  | .code .normal tm ds st => rec (.loop an b tm ds rd) st K
  | r => K r
noncomputable def blockK (id : Nat) (K : Res → VC) : Res → VC
  | .code (.exit i) tm ds st => bif_ (Nat.beq i id) (K (.code .normal tm ds st)) (K (.code (.exit i) tm ds st))
  | r => K r
noncomputable def findLab (l : Nat) (c : BC) : Option BC :=
  BC.rec (motive := fun _ => Option BC) none (fun _ => none) (fun _ => none)
    (fun _ b p q => Option.rec q (fun r => some (.seq r b)) p)
    (fun _ _ _ _ _ => none) (fun _ _ _ => none) (fun _ _ _ => none) (fun _ => none) (fun _ => none) none (fun _ _ => none)
    (fun m => bif_ (Nat.beq m l) (some .skip) none) (fun _ _ _ _ _ _ _ => none) none c
/-- Behind a jump to one of its labels a piece goes on from there. -/
noncomputable def scopeK (rec : Rec) (b : BC) (rd : Option Nat) (K : Res → VC) (f : Nat) : Res → VC :=
  Nat.rec (motive := fun _ => Res → VC) (fun _ => .bad) (fun _ ih r => match r with
    | .code (.goto l) tm ds st => Option.rec (K (.code (.goto l) tm ds st)) (fun c => rec (.code c tm ds rd) st ih) (findLab l b)
    | r => K r) f
noncomputable def condK (rec : Rec) (x y : BC) (tm : Tm) (ds : List Nat) (rd : Option Nat) (st : St) (K : Res → VC) : AV → VC
  | .bool b => Bool.rec (rec (.code y tm ds rd) st K) (rec (.code x tm ds rd) st K) b
  | .cnd c => brK c st (fun st => rec (.code x tm ds rd) st K) (fun st => rec (.code y tm ds rd) st K)
  | _ => .bad
noncomputable def jumpEx : BC → Option Ex
  | .ret => some .ret
  | .exit i => some (.exit i)
  | .goto l => some (.goto l)
  | _ => none
noncomputable def exJump : Ex → Option BC
  | .normal => none
  | .ret => some .ret
  | .exit i => some (.exit i)
  | .goto l => some (.goto l)
noncomputable def endLoop (l : Nat) (tm : Tm) (ds : List Nat) (st : St) (K : Res → VC) : Option Ob → VC
  | some (.loop s p f t ps a b d) => match s with
    | .busy => .bad
    | _ => withO st l (.loop .over p f t ps a b d) fun st => Option.rec (K (.code .normal tm ds st)) (fun c => vbind (jumpEx c) fun e => K (.code e tm ds st)) p
  | _ => .bad
noncomputable def enterLoop (rec : Rec) (f : FuncId) (x : AV) (ps : List Px) (a b : BC) (tm : Tm) (d : Nat) (ds : List Nat) (st : St) (K : Res → VC) : VC :=
  newO st (.loop .ready none f tm ps a b d) fun l st => xCallv rec [.yld l] st (fun _ st => endLoop l tm ds st K (st.x.objs.get l)) x
noncomputable def dfrOf : Option Ob → Option Nat
  | some (.loop _ _ _ _ _ _ _ d) => some d
  | _ => none
noncomputable def rngfK (rec : Rec) (f : FuncId) (x : AV) (ps : List Px) (a b : BC) (tm : Tm) (ds : List Nat) (st : St) (K : Res → VC) : Option Nat → VC
  | none => newO st (.dfr true) fun d st => enterLoop rec f x ps a b tm d (d :: ds) st K
  | some l => vbind (dfrOf (st.x.objs.get l)) fun d => enterLoop rec f x ps a b tm d ds st K
/-- A function of the program's own. -/
noncomputable def hasB (cx : Cx) : AV → Bool
  | .func (.func f) _ _ => Option.rec false (fun _ => true) (cx.fns.get f)
  | _ => false
noncomputable def stCode : BC → Cx → Rec → Tm → List Nat → Option Nat → St → (Res → VC) → VC
  | .skip => fun _ _ tm ds _ st K => K (.code .normal tm ds st)
  | .label _ => fun _ _ tm ds _ st K => K (.code .normal tm ds st)
  | .reg l => fun cx rec tm ds _ st K => opsK cx rec l tm st fun tm st => K (.code .normal tm ds st)
  | .drw s => fun cx rec tm ds _ st K => schK cx rec s tm st [] fun tm st => K (.code .normal tm ds st)
  | .seq a b => fun _ rec tm ds rd st K => rec (.code a tm ds rd) st (seqK rec b rd K)
  | .cond c x y => fun _ rec tm ds rd st K => condK rec x y tm ds rd st K (ev tm c)
  | .block id b => fun _ rec tm ds rd st K => rec (.code b tm ds rd) st (blockK id K)
  | .loop an b => fun _ rec tm ds rd st K => rec (.loop an b tm ds rd) st K
  | .exit id => fun _ _ tm ds _ st K => K (.code (.exit id) tm ds st)
  | .goto l => fun _ _ tm ds _ st K => K (.code (.goto l) tm ds st)
  | .ret => fun _ _ tm ds _ st K => K (.code .ret tm ds st)
  | .scope b => fun _ rec tm ds rd st K => rec (.code b tm ds rd) st (scopeK rec b rd K 1000)
  | .rngf f x ps a b => fun cx rec tm ds rd st K => vif (hasB cx (ev tm x)) (rngfK rec f (ev tm x) ps a b tm ds st K rd)
  | .bad => fun _ _ _ _ _ _ _ => .bad
noncomputable def resOf (cx : Cx) (st : St) (tm : Tm) : List BR → Option (List AV)
  | [] => some []
  | .t p :: r => obind (resOf cx st tm r) fun vs => some (slot tm p :: vs)
  | .cell n p :: r => obind (asPtr (slot tm p)) fun a => obind (loadVar cx st n a) fun v => obind (resOf cx st tm r) fun vs => some (v :: vs)
noncomputable def one : List AV → AV
  | [v] => v
  | l => .tuple l
/-- The loops over functions that it went through are gone. -/
noncomputable def closeD (ds : List Nat) : St → (St → VC) → VC :=
  List.rec (motive := fun _ => St → (St → VC) → VC) (fun st k => k st)
    (fun d _ ih st k => match st.x.objs.get d with
      | some (.dfr true) => withO st d (.dfr false) fun st => ih st k
      | _ => .bad) ds
noncomputable def bodyK (cx : Cx) (fn : FnI) (K : Res → VC) : Res → VC
  | .code e tm ds st => match e with
    | .normal => closeD ds st fun st => vbind (resOf cx st tm fn.results) fun vs => K (.val (one vs) st)
    | .ret => closeD ds st fun st => vbind (resOf cx st tm fn.results) fun vs => K (.val (one vs) st)
    | _ => .bad
  | _ => .bad
noncomputable def stCall (cx : Cx) (rec : Rec) (f : FuncId) (args : List AV) (st : St) (K : Res → VC) : VC :=
  Option.rec (vbind (cx.fns.get f) fun fn => putsK args 0 .nil fun tm => rec (.code fn.body tm [] none) st (bodyK cx fn K))
    (fun c => c args st fun v st => K (.val v st)) (cx.con.get f)
noncomputable def parK (ps : List Px) : List AV → Tm → (Tm → VC) → VC :=
  List.rec (motive := fun _ => List AV → Tm → (Tm → VC) → VC) (fun vs tm k => match vs with | [] => k tm | _ => .bad)
    (fun p _ ih vs tm k => match vs with | v :: r => forceV v fun v => Tr.setP p tm (some v) fun tm => ih r tm k | [] => .bad) ps
noncomputable def endRound (l : Nat) (K : Res → VC) : Res → VC
  | .code e _ _ st => match st.x.objs.get l with
    | some (.loop _ _ f t ps a b d) => Option.rec (withO st l (.loop .ready none f t ps a b d) fun st => K (.val (.bool true) st)) (fun j => withO st l (.loop .done (some j) f t ps a b d) fun st => K (.val (.bool false) st)) (exJump e)
    | _ => .bad
  | _ => .bad
noncomputable def beginRound (rec : Rec) (l : Nat) (body : BC) (K : Res → VC) : Res → VC
  | .code .normal tm [] st => match st.x.objs.get l with
    | some (.loop .ready p f t ps a b d) => withO st l (.loop .busy p f t ps a b d) fun st => rec (.code body tm [] (some l)) st (endRound l K)
    | _ => .bad
  | _ => .bad
noncomputable def stRound (rec : Rec) (l : Nat) (args : List AV) (st : St) (K : Res → VC) : Option Ob → VC
  | some (.loop _ _ _ tm ps a b _) => parK ps args tm fun tm => rec (.code a tm [] (some l)) st (beginRound rec l b K)
  | _ => .bad
noncomputable def stepEv : Task → Cx → Rec → St → (Res → VC) → VC
  | .code c tm ds rd => fun cx rec st K => stCode c cx rec tm ds rd st K
  | .loop an b tm ds rd => fun _ rec st K => rec (.code b tm ds rd) st (loopK rec an b rd K)
  | .call f args => fun cx rec st K => stCall cx rec f args st K
  | .round l args => fun _ rec st K => stRound rec l args st K (st.x.objs.get l)
noncomputable def run (cx : Cx) (n : Nat) : Task → St → (Res → VC) → VC :=
  Nat.rec (motive := fun _ => Task → St → (Res → VC) → VC) (fun _ _ _ => .bad) (fun _ ih t st K => stepEv t cx ih st K) n
noncomputable def VC.triv (v : VC) : Bool :=
  VC.rec (motive := fun _ => Bool) true false (fun _ _ _ p q => p && q) (fun _ _ _ => false) (fun _ _ p q => p && q) (fun _ _ _ _ p => p) (fun _ _ _ _ _ _ _ _ => false) (fun _ _ _ => false) v
noncomputable def st0 : St := ⟨0, 0, .nil, .nil, ⟨.nil, .nil, [], 0, 0, 0, 0⟩⟩
noncomputable def isTrueK : Res → VC
  | .val (.bool true) _ => .ok
  | .val (.cnd c) st => needK c st fun _ => .ok
  | _ => .bad
end Go.Sy
