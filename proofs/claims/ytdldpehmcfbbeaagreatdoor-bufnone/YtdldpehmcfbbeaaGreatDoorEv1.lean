/- An evaluator of closed runs: memory by names of blocks, in whatever order the machine goes. What it is; Ev2 and its kin show that the machine does so. No condition. -/
import Derived.Calls
import Derived.Orders
namespace Go.Proofs.YtdldpehmcfbbeaaGreatDoor.Ev
inductive Tr (α : Type) where
  | nil
  | node (l : Tr α) (v : Option α) (r : Tr α)
/-- Which of two: by the number's last bit. -/
noncomputable def sel {α : Type} (k : Nat) (x y : α) : α := Nat.rec (motive := fun _ => α) x (fun _ _ => y) (Nat.mod k 2)
noncomputable def Tr.get {α : Type} (t : Tr α) : Nat → Option α :=
  Tr.rec (motive := fun _ => Nat → Option α) (fun _ => none)
    (fun _ v _ gl gr n => Nat.rec (motive := fun _ => Option α) v (fun k _ => sel k (gl (Nat.div k 2)) (gr (Nat.div k 2))) n) t
noncomputable def Tr.set {α : Type} (f : Nat) : Tr α → Nat → Option α → Tr α :=
  Nat.rec (motive := fun _ => Tr α → Nat → Option α → Tr α) (fun _ _ _ => .nil)
    (fun _ st t n x => Tr.rec (motive := fun _ => Tr α)
      (Nat.rec (motive := fun _ => Tr α) (.node .nil x .nil) (fun k _ => sel k (.node (st .nil (Nat.div k 2) x) none .nil) (.node .nil none (st .nil (Nat.div k 2) x))) n)
      (fun l v r _ _ => Nat.rec (motive := fun _ => Tr α) (.node l x r) (fun k _ => sel k (.node (st l (Nat.div k 2) x) v r) (.node l v (st r (Nat.div k 2) x))) n) t) f
noncomputable def Tr.put {α : Type} (t : Tr α) (n : Nat) (x : α) : Tr α := Tr.set 40 t n (some x)
noncomputable def Tr.cut {α : Type} (t : Tr α) (n : Nat) : Tr α := Tr.set 40 t n none
/-- A number reckoned out ahead of what follows. -/
noncomputable def nat {α : Type} (n : Nat) (f : Nat → α) : α := Nat.rec (motive := fun _ => α) (f 0) (fun k _ => f (Nat.succ k)) n
/-- If. -/
noncomputable def iff {α : Type} (b : Bool) (x y : α) : α := Bool.rec (motive := fun _ => α) y x b
noncomputable def opt {α β : Type} (x : Option α) (f : α → Option β) : Option β := Option.rec (motive := fun _ => Option β) none f x
/-- Whether a run goes through. -/
inductive Ans where
  | ok
  | no
/-- What follows, if there is something. -/
noncomputable def get {α : Type} (x : Option α) (f : α → Ans) : Ans := Option.rec (motive := fun _ => Ans) .no f x
inductive Cap where
  | k (n : Nat)
  | g (s : Nat)
inductive V where
  | bool (b : Bool)
  | int (k : IntKind) (n : Int)
  | str (s : List UInt8)
  | ptr (i off : Nat)
  | nilp
  | slice (i off len : Nat) (c : Cap)
  | nils
  | map (i : Nat)
  | nilm
  | func (f : FuncId) (first captured : List V)
  | yield (i : Nat)
  | nilf
  | iface (t : TypeId) (v : V)
  | nili
  | agg (l : List V)
  | tuple (l : List V)
  | mt
  | opq (r : Value)
  | vs (i n sl L : Nat)
  | unk
/-- A value that leads to no memory, as it is. -/
def ofV : Nat → Value → Option V
  | 0, _ => none
  | n + 1, v =>
    match v with
    | .bool b => some (.bool b)
    | .int k i => some (.int k i)
    | .string s => some (.str s.data.toList)
    | .pointer none => some .nilp
    | .slice none 0 0 => some .nils
    | .map none => some .nilm
    | .nilFunc => some .nilf
    | .nilIface => some .nili
    | .iface t v => (ofV n v).map (.iface t)
    | .agg a => (a.toList.mapM (ofV n)).map .agg
    | .tuple a => (a.toList.mapM (ofV n)).map .tuple
    | .func (.func f) a b => if a.size = 0 ∧ b.size = 0 then some (.func f [] []) else none
    | _ => none
/-- The same back. -/
def toV : Nat → V → Option Value
  | 0, _ => none
  | n + 1, v =>
    match v with
    | .bool b => some (.bool b)
    | .int k i => some (.int k i)
    | .str s => some (.string ⟨s.toArray⟩)
    | .nilp => some (.pointer none)
    | .nils => some (.slice none 0 0)
    | .nilm => some (.map none)
    | .nilf => some .nilFunc
    | .nili => some .nilIface
    | .iface t v => (toV n v).map (.iface t)
    | .agg l => (l.mapM (toV n)).map fun l => .agg l.toArray
    | .tuple l => (l.mapM (toV n)).map fun l => .tuple l.toArray
    | _ => none
inductive D where
  | call (f : FuncId) (args captured : List V)
  | mark (i : Nat)
/-- What stands where nothing was laid: the same m cells again and again. -/
structure Per where
  m : Nat
  t : Tr V
inductive O where
  | row (elem : TypeId) (sz n : Nat) (per : Per) (tr : Tr V) (grown : Bool)
  | map (es : List (V × V × Nat)) (clock : Nat)
  | loop (st : LoopState) (pend : Option Code) (fn : FuncId) (T : Tr V) (nt : Nat) (params : List Nat) (assign body : Code) (defers : Nat)
  | defd (ds : Option (List D))
  | iter (s : Option (List UInt8)) (pos : Nat)
  | look (n : Nat) (tr : Tr V)
  | ones
structure Hp where
  next : Nat
  tr : Tr O
noncomputable def Hp.get (H : Hp) (i : Nat) : Option O := Hp.casesOn (motive := fun _ => Option O) H fun _ t => t.get i
noncomputable def Hp.put (H : Hp) (i : Nat) (o : O) : Hp := Hp.casesOn (motive := fun _ => Hp) H fun n t => ⟨n, t.put i o⟩
noncomputable def Hp.kill (H : Hp) (i : Nat) : Hp := Hp.casesOn (motive := fun _ => Hp) H fun n t => ⟨n, t.cut i⟩
noncomputable def Hp.new (H : Hp) (o : O) : Hp := Hp.casesOn (motive := fun _ => Hp) H fun n t => nat n fun n => ⟨Nat.succ n, t.put n o⟩
noncomputable def rget (per : Per) (tr : Tr V) (i : Nat) : Option V :=
  Option.rec (motive := fun _ => Option V) (Per.rec (motive := fun _ => Option V) (fun m t => t.get (Nat.mod i m)) per) some (tr.get i)
def noPer : Per := ⟨1, .nil⟩
def bit (i : Nat) : Nat := Nat.shiftLeft 1 i
def tb (m i : Nat) : Bool := Nat.beq (Nat.mod (Nat.shiftRight m i) 2) 1
inductive Out where
  | val (v : V)
  | call (f : FuncId) (args : List V)
  | round (i : Nat) (args : List V)
  | defer (d : D)
  | recover
/-- What follows an operation: what it tells, the memory behind it, the blocks that it read, those that it wrote. -/
abbrev K1 := Out → Hp → Nat → Nat → Ans
/-- The temporaries while a region runs: what was laid last stands first. -/
inductive LL where
  | base (t : Tr V)
  | cons (k : Nat) (v : V) (l : LL)
noncomputable def LL.get (l : LL) (i : Nat) : Option V :=
  LL.rec (motive := fun _ => Option V) (fun t => t.get i) (fun k v _ r => iff (Nat.beq k i) (some v) r) l
/-- What is kept behind the region: the slots of m. -/
noncomputable def LL.flush (l : LL) (m : Nat) : Tr V :=
  LL.rec (motive := fun _ => Tr V) (fun t => t) (fun k v _ r => iff (tb m k) (r.put k v) (Option.rec (motive := fun _ => Tr V) r (fun _ => r.cut k) (r.get k))) l
noncomputable def ev (G : Nat) (T : LL) (x : Operand) : Option V :=
  Operand.casesOn (motive := fun _ => Option V) x (fun t => T.get t) (fun v => ofV 6 v) (fun g => iff (Nat.ble (Nat.succ g) G) (some (.ptr g 0)) none) (fun f => some (.func f [] []))
def pureRun {α : Type} (P : Program) : Sem α → Option α
  | .pure a => some a
  | .program k => pureRun P (k P)
  | .mark _ k => pureRun P k
  | _ => none
/-- A value laid down whole. -/
noncomputable def V.firm {α : Type} (v : V) (f : V → α) : α :=
  match v with
  | .int k (.ofNat n) => nat n fun n => f (.int k (.ofNat n))
  | .int k (.negSucc n) => nat n fun n => f (.int k (.negSucc n))
  | .bool b => iff b (f (.bool true)) (f (.bool false))
  | .ptr i o => nat i fun i => nat o fun o => f (.ptr i o)
  | v => f v
def V.cells : V → List V
  | .agg l => l
  | v => [v]
def V.one : V → Bool
  | .agg _ | .tuple _ => false
  | _ => true
def isAggT (P : Program) (t : TypeId) : Option Bool :=
  match P.underlying t with
  | some (.struct _) | some (.array _ _) => some true
  | some _ => some false
  | none => none
def sizeT (P : Program) (t : TypeId) : Option Nat := (P.info? t).map (·.size)
def zeroT (P : Program) (t : TypeId) : Option V := ((P.info? t).bind (·.zero)).bind (ofV 6)
noncomputable def readCells (per : Per) (tr : Tr V) (n : Nat) : Nat → Option (List V) :=
  Nat.rec (motive := fun _ => Nat → Option (List V)) (fun _ => some [])
    (fun _ rec off => opt (rget per tr off) fun v => opt (rec (Nat.succ off)) fun l => some (v :: l)) n
noncomputable def writeCells (l : List V) : Tr V → Nat → Tr V :=
  List.rec (motive := fun _ => Tr V → Nat → Tr V) (fun tr _ => tr) (fun v _ rec tr off => rec (tr.put off v) (Nat.succ off)) l
noncomputable def perT (P : Program) (t : TypeId) : Option Per := opt (zeroT P t) fun z => nat z.cells.length fun n => some ⟨n, writeCells z.cells .nil 0⟩
noncomputable def partT (P : Program) (t : TypeId) (l : List V) (off : Nat) : Option V :=
  opt (isAggT P t) fun a => iff a (opt (sizeT P t) fun s => some (.agg ((l.take (off + s)).drop off))) (l[off]?)
noncomputable def loadT (P : Program) (t : TypeId) (per : Per) (tr : Tr V) (n off : Nat) : Option V :=
  opt (isAggT P t) fun a => iff a (opt (sizeT P t) fun s => iff (Nat.ble (off + s) n) (opt (readCells per tr s off) fun l => some (.agg l)) none)
    (iff (Nat.ble (Nat.succ off) n) (rget per tr off) none)
noncomputable def pure1 (v : V) (H : Hp) (k : K1) : Ans := k (.val v) H 0 0
noncomputable def newRowR (H : Hp) (o : O) (f : Nat → V) (k : K1) : Ans := nat H.next fun n => nat (bit n) fun b => k (.val (f n)) (H.new o) 0 b
/-- A row of at most so many cells. -/
def small (n : Nat) : Bool := Nat.ble n 549755813887
def okFn (P : Program) (f : FuncId) : Bool :=
  match P.funcs[f]? with
  | some fn => !(fn.name == "runtime.NumGoroutine") && fn.body.isSome
  | none => false
/-- The method behind an interface value, where it needs nothing but the value itself. -/
def methT (P : Program) (t : TypeId) (name : String) : Option FuncId :=
  match P.info? t with
  | some i => match i.methods.find? (·.name == name) with
    | some m => match m.path.size, m.func, P.underlying t with
      | 0, some (f, true), some (.pointer _) => some f
      | 0, some (_, true), _ => none
      | 0, some (_, false), some (.pointer _) => none
      | 0, some (f, false), some _ => some f
      | _, _, _ => none
    | none => none
  | none => none
noncomputable def evs (G : Nat) (T : LL) (l : List Operand) : Option (List V) :=
  List.rec (motive := fun _ => Option (List V)) (some []) (fun x _ r => opt (ev G T x) fun v => opt r fun vs => some (v :: vs)) l
/-- What needs no memory and tells what leads to none: the machine's own operation at these values. -/
noncomputable def plainV (P : Program) (G : Nat) (o : Oper) (T : LL) : Option V :=
  match o.op with
  | .select .. => none
  | _ =>
  match (o.op.operands.toList.all fun x => ((ev G T x).bind (toV 6)).isSome) with
  | false => none
  | true =>
    match pureRun P (execOp (fun x => (((ev G T x).bind (toV 6)).getD undef)) o) with
    | some (.value v) => ofV 6 v
    | _ => none
noncomputable def plainOp (P : Program) (G : Nat) (o : Oper) (T : LL) (H : Hp) (k : K1) : Ans := get (plainV P G o T) fun a => a.firm fun a => k (.val a) H 0 0
def growT (P : Program) (t : TypeId) : Option (TypeId × Nat × Nat × V) :=
  match P.underlying t with
  | some (.slice e) => match P.info? e with
    | some i => match i.zero.bind (ofV 6) with
      | some z => some (e, i.size, i.bytes, z)
      | none => none
    | none => none
  | _ => none
noncomputable def allOnes (per : Per) (tr : Tr V) (n : Nat) : Bool :=
  Nat.rec (motive := fun _ => Bool) true (fun i r => iff (match rget per tr i with | some v => v.one | none => false) r false) n
/-- A block whose first L cells are single, whatever they are. -/
noncomputable def isOnes (o : O) (L : Nat) : Bool :=
  match o with
  | .ones => true
  | .row _ _ m per tr false => iff (Nat.ble L m) (allOnes per tr m) false
  | _ => false
/-- The cells of what is appended or copied, how many elements, the block that was read. -/
noncomputable def source (sz : Nat) (x : V) (lim : Nat → Nat) (H : Hp) (k : List V → Nat → Nat → Ans) : Ans :=
  match x with
  | .nils => k [] 0 0
  | .mt => k [] 0 0
  | .str l => iff (Nat.beq sz 1) (nat (lim l.length) fun n => k ((l.take n).map (fun b => .int .u8 (.ofNat b.toNat))) n 0) .no
  | .slice j off n _ => nat (lim n) fun n => get (H.get j) fun
    | .row _ _ m per tr _ => iff (Nat.ble (off + n * sz) m) (get (readCells per tr (n * sz) off) fun l => nat (bit j) fun b => k l n b) .no
    | .look m tr => iff (Nat.ble (off + n * sz) m) (get (readCells noPer tr (n * sz) off) fun l => nat (bit j) fun b => k l n b) .no
    | _ => .no
  | .vs j n _ L => iff (Nat.beq sz 1) (nat (lim n) fun n => get (H.get j) fun src => iff (isOnes src L) (nat (bit j) fun b => k (List.replicate n .unk) n b) .no) .no
  | _ => .no
def isIntT (P : Program) (t : TypeId) : Option Bool :=
  match P.underlying t with
  | some (.int _) => some true
  | some _ => some false
  | none => none
noncomputable def appendIn (sz : Nat) (i off len c : Nat) (new : List V) (n rx : Nat) (e' : TypeId) (sz' m : Nat) (per : Per) (tr : Tr V) (gr : Bool) (G : Nat) (H : Hp) (k : K1) : Ans :=
  iff (Nat.ble (off + (len + n) * sz) m && Nat.ble G i && new.all V.one)
    (nat (bit i) fun b => nat (len + n) fun l => nat (Nat.lor rx b) fun rx => k (.val (.slice i off l (.k c))) (H.put i (.row e' sz' m per (writeCells new tr (off + len * sz)) gr)) rx b) .no
noncomputable def appendNew (e : TypeId) (sz by' : Nat) (i off len : Nat) (new : List V) (n rx m : Nat) (per : Per) (tr : Tr V) (kill : Bool) (H : Hp) (k : K1) : Ans :=
  iff (Nat.ble (2 * (len + n) * by') 70368744177664 && Nat.ble (off + len * sz) m && small ((len + n) * sz) && new.all V.one && Nat.ble (len + n) 70368744177664)
    (get (readCells per tr (len * sz) off) fun old => nat H.next fun j => nat (len + n) fun l => nat (l * sz) fun nc => nat (Nat.lor rx (bit i)) fun rx =>
      iff kill (nat (Nat.lor (bit i) (bit j)) fun w => k (.val (.slice j 0 l (.g 0))) ((H.new (.row e sz nc noPer (writeCells (old ++ new) .nil 0) true)).kill i) rx w)
        (nat (bit j) fun w => k (.val (.slice j 0 l (.g 0))) (H.new (.row e sz nc noPer (writeCells (old ++ new) .nil 0) true)) rx w)) .no
noncomputable def appendV (P : Program) (G : Nat) (t : TypeId) (s x : V) (H : Hp) (k : K1) : Ans :=
  get (growT P t) fun (e, sz, by', z) => iff (Nat.beq z.cells.length sz) (source sz x (fun n => n) H fun new n rx =>
  match s with
  | .nils => iff (Nat.beq n 0) (k (.val .nils) H rx 0)
      (iff (Nat.ble (2 * n * by') 70368744177664 && small (n * sz) && Nat.ble n 70368744177664) (nat H.next fun j => nat (bit j) fun w => nat (n * sz) fun nc => k (.val (.slice j 0 n (.g 0))) (H.new (.row e sz nc noPer (writeCells new .nil 0) true)) rx w) .no)
  | .slice i off len (.k c) => get (H.get i) fun
    | .row e' sz' m per tr gr => iff (Nat.ble (len + n) c) (appendIn sz i off len c new n rx e' sz' m per tr gr G H k) (appendNew e sz by' i off len new n rx m per tr false H k)
    | _ => .no
  | .slice i off len (.g s0) => get (H.get i) fun
    | .row e' sz' m per tr true => iff (Nat.beq e e' && Nat.beq sz sz' && Nat.beq off (s0 * sz) && Nat.ble G i && Nat.beq (Nat.land rx (bit i)) 0) (appendNew e sz by' i off len new n rx m per tr true H k) .no
    | _ => .no
  | .mt => iff (Nat.beq n 0) (k (.val .mt) H rx 0) .no
  | _ => .no) .no
noncomputable def appendOp (P : Program) (G : Nat) (t t2 : TypeId) (s x : V) (H : Hp) (k : K1) : Ans :=
  get (isIntT P t2) fun z => iff z .no (appendV P G t s x H k)
/-- Bytes of an unknown number are appended: what comes of it is unknown, too. -/
noncomputable def appendW (P : Program) (G : Nat) (t t2 : TypeId) (s : V) (j n sl L : Nat) (H : Hp) (k : K1) : Ans :=
  get (isIntT P t2) fun z => iff z .no (get (growT P t) fun (e, sz, by', z) => iff (Nat.beq z.cells.length sz && Nat.beq sz 1 && Nat.beq by' 1) (get (H.get j) fun src => iff (isOnes src L)
    (match s with
    | .slice i off len (.k c) => get (H.get i) fun
      | .row _ _ m per tr _ => iff (Nat.ble (Nat.succ c) (n + len) && Nat.ble len sl && Nat.ble (off + len) m) (get (readCells per tr len off) fun old => iff (old.all V.one)
          (nat (Nat.lor (bit i) (bit j)) fun rx => nat H.next fun j' => nat (bit j') fun w => nat (sl - len) fun sl' => k (.val (.vs j' (n + len) sl' (n + len))) (H.new .ones) rx w) .no) .no
      | _ => .no
    | .slice i off len (.g s0) => get (H.get i) fun
      | .row e' sz' m per tr true => iff (Nat.beq e e' && Nat.beq sz' 1 && Nat.beq off s0 && Nat.ble G i && !(Nat.beq i j) && Nat.ble len sl && Nat.ble (off + len) m) (get (readCells per tr len off) fun old => iff (old.all V.one)
          (nat (Nat.lor (bit i) (bit j)) fun rx => nat H.next fun j' => nat (Nat.lor (bit i) (bit j')) fun w => nat (sl - len) fun sl' => k (.val (.vs j' (n + len) sl' (n + len))) ((H.new .ones).kill i) rx w) .no) .no
      | _ => .no
    | _ => .no) .no) .no)
noncomputable def copyOp (P : Program) (G : Nat) (t : TypeId) (s : V) (x : V) (H : Hp) (k : K1) : Ans :=
  get (growT P t) fun (_, sz, _, _) =>
  match s with
  | .slice i off len _ => source sz x (fun n => Nat.min n len) H fun new n rx => get (H.get i) fun
    | .row e' sz' m per tr gr => iff (Nat.ble (off + n * sz) m && Nat.ble G i && new.all V.one) (nat (bit i) fun b => nat (Nat.lor rx b) fun rx => k (.val (.int .i64 (.ofNat n))) (H.put i (.row e' sz' m per (writeCells new tr off) gr)) rx b) .no
    | _ => .no
  | _ => .no
def fillL (place : Nat → Option (Nat × Nat)) (cells : List V) : List (Nat × V) → Option (List V)
  | [] => some cells
  | (i, v) :: rest =>
    match place i with
    | none => none
    | some (off, size) =>
      bif Nat.beq v.cells.length size && Nat.ble (off + v.cells.length) cells.length then fillL place (cells.take off ++ v.cells ++ cells.drop (off + v.cells.length)) rest
      else none
noncomputable def evp (G : Nat) (T : LL) (l : List (Nat × Operand)) : Option (List (Nat × V)) :=
  List.rec (motive := fun _ => Option (List (Nat × V))) (some []) (fun x _ r => opt (ev G T x.2) fun v => opt r fun vs => some ((x.1, v) :: vs)) l
/-- Where the fields of a struct lie. -/
def placesT (P : Program) (fs : Array Field) : Option (List (Nat × Nat)) := fs.toList.mapM fun f => (sizeT P f.type).map fun s => (f.offset, s)
def repL (z : List V) : Nat → List V
  | 0 => []
  | n + 1 => z ++ repL z n
def bound (x : Option V) (y : Nat) (d : Nat) : Option Nat :=
  match x with
  | none => some d
  | some (.int _ (.ofNat i)) => bif Nat.ble i y then some i else none
  | _ => none
noncomputable def sliceK (i off sz l h m : Nat) (H : Hp) (k : K1) : Ans :=
  nat (h - l) fun len => nat (m - l) fun c => iff (Nat.beq m l) (pure1 (.slice i off len (.k c)) H k) (nat (off + l * sz) fun off => pure1 (.slice i off len (.k c)) H k)
noncomputable def sliceOp (P : Program) (t : TypeId) (x : V) (lo hi mx : Option V) (H : Hp) (k : K1) : Ans :=
  iff (mx.isSome && hi.isNone) .no <|
  match P.underlying t, x with
  | some (.array n e), .ptr i off => get (sizeT P e) fun sz => get (bound mx n n) fun m => get (bound hi m n) fun h => get (bound lo h 0) fun l => sliceK i off sz l h m H k
  | some (.slice e), .slice i off len (.k c) => get (sizeT P e) fun sz => get (bound mx c c) fun m => get (bound hi m len) fun h => get (bound lo h 0) fun l => sliceK i off sz l h m H k
  | some (.slice e), .slice i off len (.g s) => get (sizeT P e) fun sz =>
    match mx with
    | none => get (bound hi len len) fun h => get (bound lo h 0) fun l => iff (Nat.beq l 0 || Nat.ble (Nat.succ l) len) (nat (h - l) fun n => nat (off + l * sz) fun off => nat (s + l) fun s => pure1 (.slice i off n (.g s)) H k) (pure1 .mt H k)
    | some mx => get (bound (some mx) len len) fun m => get (bound hi m len) fun h => get (bound lo h 0) fun l => sliceK i off sz l h m H k
  | some (.slice e), .vs i n sl L => get (sizeT P e) fun _ => match mx, hi with
    | none, none => get (bound lo n 0) fun l => iff (Nat.beq l 0) (pure1 (.vs i n sl L) H k) .no
    | _, _ => .no
  | some (.slice e), .mt => get (sizeT P e) fun _ => get (bound mx 0 0) fun _ => get (bound hi 0 0) fun _ => get (bound lo 0 0) fun _ => pure1 .mt H k
  | _, _ => .no
/-- Is one of two values of that type nil, and the other not? -/
def eqNil (P : Program) (t : TypeId) (x y : V) : Bool :=
  match P.underlying t, x, y with
  | some (.pointer _), .nilp, .ptr _ _ | some (.pointer _), .ptr _ _, .nilp => true
  | some (.slice _), .nils, .slice .. | some (.slice _), .slice .., .nils => true
  | some (.slice _), .nils, .mt | some (.slice _), .mt, .nils => true
  | some (.map _ _), .nilm, .map _ | some (.map _ _), .map _, .nilm => true
  | some (.func _ _ _), .nilf, .func .. | some (.func _ _ _), .func .., .nilf => true
  | some (.interface _), .nili, .iface _ _ | some (.interface _), .iface _ _, .nili => true
  | _, _, _ => false
/-- Functions without a Go body, as the model has them. -/
def toBytes : List V → Option (List UInt8)
  | [] => some []
  | .int .u8 (.ofNat b) :: l => (toBytes l).map (UInt8.ofNat b :: ·)
  | _ => none
abbrev Xt := FuncId → Option (Array Value → Sem Value)
/-- A call that was run by itself: what it was given, and the memory; what it tells, the memory behind it as far as it is wanted, what it read and wrote. -/
structure Kn where
  args : List V
  H : Hp
  v : V
  H' : Hp
  rd : Nat
  wr : Nat
/-- A function of no arguments that was run by itself, once and for all: the tables that it wants, what it tells, what it reads of what was there. -/
structure Cl where
  b : Bool
  h : Hp
  rd : Nat
structure Ext where
  ext : Xt
  known : FuncId → Nat → Option Kn
  bytes : FuncId → Bool
  closed : FuncId → Option Cl
noncomputable def extV (P : Program) (X : Ext) (f : FuncId) (args : List V) : Option V :=
  opt (X.ext f) fun e => opt (args.mapM (toV 6)) fun l => opt (pureRun P (e l.toArray)) fun v => ofV 6 v
/-- A row of bytes as it reads, and the block that was read. -/
noncomputable def rdB (x : V) (H : Hp) : Option (V × Nat) :=
  match x with
  | .slice i off n _ => opt (H.get i) fun
    | .row _ _ m per tr _ => iff (Nat.ble (off + n) m) (opt (readCells per tr n off) fun l => opt (toBytes l) fun l => some (.str l, bit i)) none
    | _ => none
  | .nils => some (.str [], 0)
  | .mt => some (.str [], 0)
  | x => some (x, 0)
/-- A function without a Go body that reads bytes. -/
noncomputable def extM (P : Program) (X : Ext) (f : FuncId) (args : List V) (H : Hp) (k : K1) : Ans :=
  match args with
  | [x, y] => get (rdB x H) fun (x, a) => get (rdB y H) fun (y, b) => get (extV P X f [x, y]) fun v => v.firm fun v => nat (Nat.lor a b) fun r => k (.val v) H r 0
  | _ => .no
noncomputable def callV (P : Program) (X : Ext) (x : V) (args : List V) (H : Hp) (k : K1) : Ans :=
  match x with
  | .func f first cap => iff (okFn P f) (k (.call f (first ++ args ++ cap)) H 0 0) (iff (X.bytes f) (extM P X f (first ++ args ++ cap) H k) (get (extV P X f (first ++ args ++ cap)) fun a => a.firm fun a => k (.val a) H 0 0))
  | .yield i => get (H.get i) fun
    | .loop _ _ _ _ _ ps _ _ _ => iff (Nat.beq args.length ps.length) (nat (bit i) fun b => k (.round i args) H b 0) .no
    | _ => .no
  | _ => .no
noncomputable def callM (P : Program) (x : V) (name : String) (args : List V) (H : Hp) (k : K1) : Ans :=
  match x with
  | .iface t v => get (methT P t name) fun f => iff (okFn P f) (k (.call f (v :: args)) H 0 0) .no
  | _ => .no
noncomputable def callB (P : Program) (G : Nat) (o : Oper) (b : Builtin) (args : List V) (ts : List TypeId) (T : LL) (H : Hp) (k : K1) : Ans :=
  match b, args, ts with
  | .append, [s, .vs j n sl L], t :: t2 :: _ => iff (Nat.ble 64 n) (appendW P G t t2 s j n sl L H k) (appendOp P G t t2 s (.vs j n sl L) H k)
  | .append, [s, x], t :: t2 :: _ => appendOp P G t t2 s x H k
  | .copy, [s, x], t :: _ => copyOp P G t s x H k
  | .len, [.slice _ _ n _], t :: _ => match P.underlying t with
    | some (.slice _) => pure1 (.int .i64 (.ofNat n)) H k
    | _ => .no
  | .len, [.vs _ n _ _], t :: _ => match P.underlying t with
    | some (.slice _) => pure1 (.int .i64 (.ofNat n)) H k
    | _ => .no
  | .len, [.str s], t :: _ => match P.underlying t with
    | some .string => nat s.length fun n => pure1 (.int .i64 (.ofNat n)) H k
    | _ => .no
  | .len, [.mt], t :: _ => match P.underlying t with
    | some (.slice _) => pure1 (.int .i64 (.ofNat 0)) H k
    | _ => .no
  | .recover, [], _ => k .recover H 0 0
  | _, _, _ => plainOp P G o T H k
noncomputable def callOp (P : Program) (X : Ext) (G : Nat) (o : Oper) (c : Call) (T : LL) (H : Hp) (k : K1) : Ans :=
  get (evs G T c.args.toList) fun args =>
  match c.callee with
  | .value x => get (ev G T x) fun x => callV P X x args H k
  | .invoke x name => get (ev G T x) fun x => callM P x name args H k
  | .builtin b => callB P G o b args c.argTypes.toList T H k
noncomputable def xLoad (P : Program) (t : TypeId) (x : V) (H : Hp) (k : K1) : Ans :=
  match x with
  | .ptr i off => get (H.get i) fun
    | .row _ _ n per tr _ => get (loadT P t per tr n off) fun v => nat (bit i) fun b => k (.val v) H b 0
    | _ => .no
  | _ => .no
noncomputable def xStore (P : Program) (G : Nat) (t : TypeId) (x v : V) (H : Hp) (k : K1) : Ans :=
  match x with
  | .ptr i off => get (H.get i) fun
    | .row e sz n per tr gr => get (sizeT P t) fun s =>
      iff (Nat.beq v.cells.length s && Nat.ble (off + s) n && v.cells.all V.one && Nat.ble G i)
        (nat (bit i) fun b => k (.val (.tuple [])) (H.put i (.row e sz n per (writeCells v.cells tr off) gr)) b b) .no
    | _ => .no
  | _ => .no
noncomputable def xField (P : Program) (s : TypeId) (x : V) (f : Nat) (H : Hp) (k : K1) : Ans :=
  match x with
  | .ptr i off => match P.underlying s with
    | some (.struct fs) => get (fs[f]?) fun fd => get (sizeT P fd.type) fun
      | _ + 1 => nat (off + fd.offset) fun q => pure1 (.ptr i q) H k
      | 0 => .no
    | _ => .no
  | _ => .no
noncomputable def xFieldV (P : Program) (s : TypeId) (x : V) (f : Nat) (H : Hp) (k : K1) : Ans :=
  match x with
  | .agg l => match P.underlying s with
    | some (.struct fs) => get (fs[f]?) fun fd => get (partT P fd.type l fd.offset) fun v => pure1 v H k
    | _ => .no
  | _ => .no
noncomputable def xIndexAddr (P : Program) (t : TypeId) (x y : V) (H : Hp) (k : K1) : Ans :=
  match y with
  | .int _ (.ofNat j) =>
    match x with
    | .ptr i off => match P.underlying t with
      | some (.array n e) => get (sizeT P e) fun sz => iff (Nat.ble (Nat.succ j) n) (nat (off + j * sz) fun q => pure1 (.ptr i q) H k) .no
      | _ => .no
    | .slice i off n _ => match P.underlying t with
      | some (.slice e) => get (sizeT P e) fun sz => iff (Nat.ble (Nat.succ j) n) (nat (off + j * sz) fun q => pure1 (.ptr i q) H k) .no
      | _ => .no
    | _ => .no
  | _ => .no
noncomputable def buildL (P : Program) (t : TypeId) (l : List (Nat × V)) (z : V) : Option (List V) :=
  match P.underlying t with
  | some (.struct fs) => opt (placesT P fs) fun pl => fillL (pl[·]?) z.cells l
  | some (.array _ e) => opt (sizeT P e) fun sz => fillL (fun i => some (i * sz, sz)) z.cells l
  | _ => none
noncomputable def xBuildSlice (P : Program) (t : TypeId) (len : Nat) (l : List (Nat × V)) (H : Hp) (k : K1) : Ans :=
  get (growT P t) fun (e, sz, _, z) => iff (Nat.ble (len * sz) 16384 && Nat.beq z.cells.length sz)
    (get (fillL (fun i => some (i * sz, sz)) (repL z.cells len) l) fun cs => nat (len * sz) fun nc => newRowR H (.row e sz nc noPer (writeCells cs .nil 0) false) (fun i => .slice i 0 len (.k len)) k) .no
noncomputable def xMakeSlice (P : Program) (t : TypeId) (a b : V) (H : Hp) (k : K1) : Ans :=
  match a, b with
  | .int .i64 (.ofNat l), .int .i64 (.ofNat c) => get (growT P t) fun (e, sz, by', _) => get (perT P e) fun z =>
    iff (Nat.ble l c && Nat.ble (c * by') 1073741824 && Nat.ble c 1073741824 && Nat.beq z.m sz && Nat.ble 1 sz)
      (nat (c * sz) fun nc => iff (small nc) (newRowR H (.row e sz nc z .nil false) (fun i => .slice i 0 l (.k c)) k) .no) .no
  | _, _ => .no
/-- An answer laid down. -/
noncomputable def yes (b : Bool) (H : Hp) (m : Nat) (k : K1) : Ans := iff b (k (.val (.bool true)) H m 0) (k (.val (.bool false)) H m 0)
def intLt : Int → Int → Bool
  | .ofNat m, .ofNat n => Nat.ble (Nat.succ m) n
  | .negSucc m, .negSucc n => Nat.ble (Nat.succ n) m
  | .negSucc _, .ofNat _ => true
  | .ofNat _, .negSucc _ => false
def intEq : Int → Int → Bool
  | .ofNat m, .ofNat n => Nat.beq m n
  | .negSucc m, .negSucc n => Nat.beq n m
  | _, _ => false
/-- Up to here a number of that kind is itself. -/
def limK : IntKind → Nat
  | .i8 => 127 | .u8 => 255 | .i16 => 32767 | .u16 => 65535 | .i32 => 2147483647 | .u32 => 4294967295 | .i64 => 9223372036854775807 | .u64 => 18446744073709551615
noncomputable def fits (P : Program) (G : Nat) (o : Oper) (q : IntKind) (n : Nat) (T : LL) (H : Hp) (k : K1) : Ans := nat n fun n => iff (Nat.ble n (limK q)) (pure1 (.int q (.ofNat n)) H k) (plainOp P G o T H k)
noncomputable def xNats (P : Program) (G : Nat) (o : Oper) (op : BinOp) (q : IntKind) (m n : Nat) (T : LL) (H : Hp) (k : K1) : Ans :=
  match op with
  | .add => fits P G o q (Nat.add m n) T H k
  | .sub => iff (Nat.ble n m) (fits P G o q (Nat.sub m n) T H k) (plainOp P G o T H k)
  | .mul => fits P G o q (Nat.mul m n) T H k
  | .quo => iff (Nat.beq n 0) .no (fits P G o q (Nat.div m n) T H k)
  | .rem => iff (Nat.beq n 0) .no (fits P G o q (Nat.mod m n) T H k)
  | _ => plainOp P G o T H k
/-- The quick way with two integers of a kind: comparisons; small sums. -/
noncomputable def xInts (P : Program) (G : Nat) (o : Oper) (op : BinOp) (q : IntKind) (a b : Int) (T : LL) (H : Hp) (k : K1) : Ans :=
  match op with
  | .eql => yes (intEq a b) H 0 k
  | .neq => yes (!(intEq a b)) H 0 k
  | .lss => yes (intLt a b) H 0 k
  | .leq => yes (!(intLt b a)) H 0 k
  | .gtr => yes (intLt b a) H 0 k
  | .geq => yes (!(intLt a b)) H 0 k
  | op => match a, b with
    | .ofNat m, .ofNat n => xNats P G o op q m n T H k
    | _, _ => plainOp P G o T H k
noncomputable def sameKind (k k' : IntKind) : Bool := Nat.beq k.ctorIdx k'.ctorIdx
noncomputable def eqL {α : Type} (f : α → α → Bool) (l : List α) : List α → Bool :=
  List.rec (motive := fun _ => List α → Bool) (fun m => match m with | [] => true | _ => false) (fun x _ r m => match m with | [] => false | y :: m => iff (f x y) (r m) false) l
noncomputable def eqTr {α : Type} (f : α → α → Bool) (t : Tr α) : Tr α → Bool :=
  Tr.rec (motive := fun _ => Tr α → Bool) (fun u => match u with | .nil => true | _ => false)
    (fun _ v _ rl rr u => match u with
      | .nil => false
      | .node l' v' r' => iff (match v, v' with | none, none => true | some a, some b => f a b | _, _ => false) (iff (rl l') (rr r') false) false) t
noncomputable def eqByte (a b : UInt8) : Bool := Nat.beq a.toNat b.toNat
def eqCap : Cap → Cap → Bool
  | .k a, .k b => Nat.beq a b
  | .g a, .g b => Nat.beq a b
  | _, _ => false
noncomputable def eqV : Nat → V → V → Bool
  | 0, _, _ => false
  | n + 1, v, w => match v with
    | .bool a => match w with | .bool b => iff a b (!b) | _ => false
    | .int k a => match w with | .int k' b => iff (sameKind k k') (intEq a b) false | _ => false
    | .str a => match w with | .str b => eqL eqByte a b | _ => false
    | .ptr i o => match w with | .ptr j p => iff (Nat.beq i j) (Nat.beq o p) false | _ => false
    | .nilp => match w with | .nilp => true | _ => false
    | .slice i o l c => match w with | .slice j p m d => iff (Nat.beq i j) (iff (Nat.beq o p) (iff (Nat.beq l m) (eqCap c d) false) false) false | _ => false
    | .nils => match w with | .nils => true | _ => false
    | .map i => match w with | .map j => Nat.beq i j | _ => false
    | .nilm => match w with | .nilm => true | _ => false
    | .func f a b => match w with | .func g c d => iff (Nat.beq f g) (iff (eqL (eqV n) a c) (eqL (eqV n) b d) false) false | _ => false
    | .yield i => match w with | .yield j => Nat.beq i j | _ => false
    | .nilf => match w with | .nilf => true | _ => false
    | .iface t a => match w with | .iface u b => iff (Nat.beq t u) (eqV n a b) false | _ => false
    | .nili => match w with | .nili => true | _ => false
    | .agg a => match w with | .agg b => eqL (eqV n) a b | _ => false
    | .tuple a => match w with | .tuple b => eqL (eqV n) a b | _ => false
    | .mt => match w with | .mt => true | _ => false
    | .opq _ => false
    | .vs .. => false
    | .unk => false
noncomputable def eqD : D → D → Bool
  | .call f a b, .call g c d => iff (Nat.beq f g) (iff (eqL (eqV 9) a c) (eqL (eqV 9) b d) false) false
  | .mark i, .mark j => Nat.beq i j
  | _, _ => false
noncomputable def eqOb (x y : O) : Bool :=
  match x with
  | .row e s n p t g => match y with
    | .row e' s' n' p' t' g' => iff (Nat.beq e e') (iff (Nat.beq s s') (iff (Nat.beq n n') (iff (Nat.beq p.m p'.m) (iff (eqTr (eqV 9) p.t p'.t) (iff (eqTr (eqV 9) t t') (iff g g' (!g')) false) false) false) false) false) false
    | _ => false
  | .map l c => match y with
    | .map m d => iff (Nat.beq c d) (eqL (fun a b => iff (eqV 9 a.1 b.1) (iff (eqV 9 a.2.1 b.2.1) (Nat.beq a.2.2 b.2.2) false) false) l m) false
    | _ => false
  | .defd none => match y with
    | .defd none => true
    | _ => false
  | .defd (some l) => match y with
    | .defd (some m) => eqL eqD l m
    | _ => false
  | _ => false
noncomputable def eqHp (x y : Hp) : Bool := iff (Nat.beq x.next y.next) (eqTr eqOb x.tr y.tr) false
/-- Is all that stands in the first one in the second one, too? -/
noncomputable def subTr {α : Type} (f : α → α → Bool) (t : Tr α) : Tr α → Bool :=
  Tr.rec (motive := fun _ => Tr α → Bool) (fun _ => true)
    (fun _ v _ rl rr u => match u with
      | .nil => false
      | .node l' v' r' => iff (match v, v' with | none, _ => true | some a, some b => f a b | _, _ => false) (iff (rl l') (rr r') false) false) t
noncomputable def argsFit (a b : List V) : Bool := eqL (eqV 9) a b
noncomputable def Kn.fits (x : Kn) (args : List V) (H : Hp) : Bool := iff (Nat.beq x.rd x.rd) (iff (argsFit x.args args) (eqHp x.H H) false) false
noncomputable def Cl.fits (c : Cl) (args : List V) (H : Hp) : Bool := iff (argsFit [] args) (subTr eqOb c.h.tr H.tr) false
/-- What is asked of a call that is run by itself. -/
noncomputable def Kn.asks (x : Kn) : V → Hp → Nat → Nat → Ans := fun v H rd wr => iff (eqV 9 x.v v) (iff (Nat.beq x.rd rd) (iff (Nat.beq x.wr wr) (iff (Nat.beq x.H'.next H.next) (iff (subTr eqOb x.H'.tr H.tr) .ok .no) .no) .no) .no) .no
noncomputable def xEq (P : Program) (G : Nat) (o : Oper) (op : BinOp) (t : TypeId) (a b : V) (T : LL) (H : Hp) (k : K1) : Ans :=
  iff (eqNil P t a b) (match op with
    | .eql => k (.val (.bool false)) H 0 0
    | .neq => k (.val (.bool true)) H 0 0
    | _ => .no) (plainOp P G o T H k)
def isBoolT (P : Program) (t : TypeId) : Bool :=
  match P.underlying t with
  | some .bool => true
  | _ => false
noncomputable def xBools (P : Program) (G : Nat) (o : Oper) (op : BinOp) (t : TypeId) (a b : Bool) (T : LL) (H : Hp) (k : K1) : Ans :=
  match op with
  | .eql => iff (isBoolT P t) (yes (iff a b (!b)) H 0 k) .no
  | .neq => iff (isBoolT P t) (yes (iff a (!b) b) H 0 k) .no
  | _ => plainOp P G o T H k
noncomputable def xBin (P : Program) (G : Nat) (o : Oper) (op : BinOp) (t : TypeId) (a b : V) (T : LL) (H : Hp) (k : K1) : Ans :=
  match a with
  | .int q m => match b with
    | .int q' n => iff (sameKind q q') (xInts P G o op q m n T H k) (plainOp P G o T H k)
    | _ => .no
  | .bool a => match b with
    | .bool b => xBools P G o op t a b T H k
    | _ => .no
  | .str _ => plainOp P G o T H k
  | a => xEq P G o op t a b T H k
noncomputable def xAssert (P : Program) (t : TypeId) (ok : Bool) (x : V) (H : Hp) (k : K1) : Ans :=
  match x, P.underlying t with
  | .iface s v, some (.interface want) => match P.info? s with
    | some i => match Instr.missingMethod want i.methods with
      | none => pure1 (iff ok (.tuple [.iface s v, .bool true]) (.iface s v)) H k
      | some _ => .no
    | none => .no
  | .iface s v, some _ => iff (Nat.beq s t) (pure1 (iff ok (.tuple [v, .bool true]) v) H k)
      (iff ok (get (zeroT P t) fun z => pure1 (.tuple [z, .bool false]) H k) .no)
  | .nili, some _ => iff ok (get (zeroT P t) fun z => pure1 (.tuple [z, .bool false]) H k) .no
  | _, _ => .no
noncomputable def xConvert (P : Program) (G : Nat) (o : Oper) (s d : TypeId) (x : V) (T : LL) (H : Hp) (k : K1) : Ans := get (P.underlying s) fun ds =>
  match x with
  | .str l => match P.underlying d with
    | some (.slice e) => match P.underlying e with
      | some (.int .u8) => nat H.next fun j => nat (bit j) fun w => nat l.length fun n => iff (small n) (k (.val (.slice j 0 n (.g 0))) (H.new (.row e 1 n noPer (writeCells (l.map fun b => .int .u8 (.ofNat b.toNat)) .nil 0) true)) 0 w) .no
      | _ => .no
    | _ => plainOp P G o T H k
  | .slice i off n c => match ds, P.underlying d with
    | .slice _, some (.slice e) => iff (Nat.beq s d && Nat.ble G i) (match P.underlying e with
      | some (.int .u8) => get (H.get i) fun
        | .row e sz m per tr gr => nat (bit i) fun b => k (.val (.slice i off n c)) (H.put i (.row e sz m per tr gr)) b b
        | _ => .no
      | _ => .no) .no
    | .slice e, some .string => match P.underlying e with
      | some (.int .u8) => get (H.get i) fun
        | .row _ _ m per tr _ => iff (Nat.ble (off + n) m) (get (readCells per tr n off) fun l => get (toBytes l) fun l => nat (bit i) fun b => k (.val (.str l)) H b 0) .no
        | _ => .no
      | _ => .no
    | _, _ => .no
  | .int _ (.ofNat n) => match P.underlying d with
    | some (.int q) => iff (Nat.ble n (limK q)) (pure1 (.int q (.ofNat n)) H k) (plainOp P G o T H k)
    | _ => plainOp P G o T H k
  | _ => plainOp P G o T H k
noncomputable def xUn (P : Program) (G : Nat) (o : Oper) (op : UnOp) (x : V) (T : LL) (H : Hp) (k : K1) : Ans :=
  match op, x with
  | .not, .bool b => yes (!b) H 0 k
  | _, _ => plainOp P G o T H k
noncomputable def xIndex (P : Program) (G : Nat) (o : Oper) (t : TypeId) (x y : V) (T : LL) (H : Hp) (k : K1) : Ans :=
  match x, y with
  | .str s, .int _ (.ofNat j) => match P.underlying t with
    | some .string => get (s[j]?) fun b => nat b.toNat fun n => pure1 (.int .u8 (.ofNat n)) H k
    | _ => .no
  | .agg l, .int _ (.ofNat j) => match P.underlying t with
    | some (.array n elem) => iff (Nat.ble (Nat.succ j) n) (get (sizeT P elem) fun s => nat (j * s) fun off => get (partT P elem l off) fun v => pure1 v H k) .no
    | _ => .no
  | _, _ => plainOp P G o T H k
noncomputable def xNilCheck (x : V) (H : Hp) (k : K1) : Ans :=
  match x with
  | .ptr i q => pure1 (.ptr i q) H k
  | .func f a b => pure1 (.func f a b) H k
  | .yield i => pure1 (.yield i) H k
  | .iface t v => pure1 (.iface t v) H k
  | _ => .no
noncomputable def xPick (G : Nat) (T : LL) (c : V) (a b : Operand) (H : Hp) (k : K1) : Ans :=
  match c with
  | .bool t => iff t (get (ev G T a) fun v => pure1 v H k) (get (ev G T b) fun v => pure1 v H k)
  | _ => .no
noncomputable def xExtract (x : V) (j : Nat) (H : Hp) (k : K1) : Ans :=
  match x with
  | .tuple l => get (l[j]?) fun v => pure1 v H k
  | _ => .no
/-- A bound of a slice expression, if there is one. -/
noncomputable def evo (G : Nat) (T : LL) (x : Option Operand) (k : Option V → Ans) : Ans :=
  match x with
  | none => k none
  | some y => get (ev G T y) fun v => k (some v)
noncomputable def xSlice (P : Program) (G : Nat) (o : Oper) (t : TypeId) (x : V) (lo hi mx : Option Operand) (T : LL) (H : Hp) (k : K1) : Ans :=
  match x with
  | .str _ => plainOp P G o T H k
  | .nils => plainOp P G o T H k
  | v => evo G T lo fun lo => evo G T hi fun hi => evo G T mx fun mx => sliceOp P t v lo hi mx H k
noncomputable def xMakeIface (P : Program) (t : TypeId) (v : V) (H : Hp) (k : K1) : Ans :=
  match P.underlying t with
  | some (.interface _) => .no
  | some _ => pure1 (.iface t v) H k
  | none => .no
noncomputable def xMakeFunc (f : Fn) (l m : List V) (H : Hp) (k : K1) : Ans :=
  match f with
  | .func f => pure1 (.func f l m) H k
  | _ => .no
noncomputable def xDefer (G : Nat) (c : Call) (T : LL) (H : Hp) (k : K1) : Ans :=
  match c.callee with
  | .value x => get (evs G T c.args.toList) fun args => get (ev G T x) fun
    | .func f first cap => k (.defer (.call f (first ++ args) cap)) H 0 0
    | _ => .no
  | _ => .no
/-- Where a key stands in a map: the machine's own search at these keys. -/
def keysOf : List (V × V × Nat) → Option (List MapEntry)
  | [] => some []
  | (a, _, _) :: l => match toV 6 a, keysOf l with
    | some k, some r => some (⟨k, undef, 0⟩ :: r)
    | _, _ => none
noncomputable def mapFind (P : Program) (t : TypeId) (empty : Bool) (x : V) (es : List (V × V × Nat)) : Option (Option Nat) :=
  opt (toV 6 x) fun k => opt (keysOf es) fun l => opt (pureRun P (Instr.checkKey empty 10000 t k)) fun _ => opt (pureRun P (Instr.findKey t k l)) fun r => some (r.map (·.1))
noncomputable def xMakeMap (H : Hp) (k : K1) : Ans := newRowR H (.map [] 0) (fun i => .map i) k
noncomputable def told (P : Program) (t : TypeId) (ok : Bool) (x : Option V) (f : V → Ans) : Ans :=
  match x with
  | some v => f (iff ok (.tuple [v, .bool true]) v)
  | none => get (zeroT P t) fun z => f (iff ok (.tuple [z, .bool false]) z)
noncomputable def xLookup (P : Program) (t : TypeId) (x y : V) (ok : Bool) (H : Hp) (k : K1) : Ans :=
  match P.underlying t with
  | some (.map kt et) => match x with
    | .nilm => get (mapFind P kt true y []) fun _ => told P et ok none fun v => pure1 v H k
    | .map i => get (H.get i) fun
      | .map es _ => get (mapFind P kt es.isEmpty y es) fun
        | some j => get (es[j]?) fun e => told P et ok (some e.2.1) fun v => nat (bit i) fun b => k (.val v) H b 0
        | none => told P et ok none fun v => nat (bit i) fun b => k (.val v) H b 0
      | _ => .no
    | _ => .no
  | _ => .no
noncomputable def setKey (es : List (V × V × Nat)) (j : Nat) (f : V × Nat → V × V × Nat) (a : V) (k : List (V × V × Nat) → V → Nat → Ans) : Ans :=
  get (es[j]?) fun e => get (toV 6 e.1) fun old => get (toV 6 a) fun new => iff (Instr.sameBits 10000 old new) (k (es.set j (f e.2)) e.2.1 e.2.2) .no
noncomputable def xMapUpdate (P : Program) (G : Nat) (t : TypeId) (x y z : V) (H : Hp) (k : K1) : Ans :=
  match P.underlying t with
  | some (.map kt _) => match x with
    | .map i => get (H.get i) fun
      | .map es c => iff (Nat.ble G i) (get (mapFind P kt false y es) fun
        | some j => setKey es j (fun e => (y, z, e.2)) y fun es _ _ => nat (bit i) fun b => k (.val (.tuple [])) (H.put i (.map es c)) b b
        | none => nat (bit i) fun b => nat (Nat.succ c) fun c' => k (.val (.tuple [])) (H.put i (.map (es ++ [(y, z, c)]) c')) b b) .no
      | _ => .no
    | _ => .no
  | _ => .no
noncomputable def xMapEntry (P : Program) (G : Nat) (t : TypeId) (x y : V) (H : Hp) (k : K1) : Ans :=
  match P.underlying t with
  | some (.map kt et) => match x with
    | .map i => get (H.get i) fun
      | .map es c => iff (Nat.ble G i) (get (mapFind P kt false y es) fun
        | some j => setKey es j (fun e => (y, e)) y fun es v born => nat (bit i) fun b => k (.val (.tuple [v, .int .i64 (.ofNat born)])) (H.put i (.map es c)) b b
        | none => get (zeroT P et) fun z => nat (bit i) fun b => nat (Nat.succ c) fun c' => k (.val (.tuple [z, .int .i64 (.ofNat c)])) (H.put i (.map (es ++ [(y, z, c)]) c')) b b) .no
      | _ => .no
    | _ => .no
  | _ => .no
noncomputable def bornAt (n : Nat) (es : List (V × V × Nat)) : Option Nat :=
  List.rec (motive := fun _ => Option Nat) none (fun e _ r => iff (Nat.beq e.2.2 n) (some 0) (opt r fun j => some (Nat.succ j))) es
noncomputable def xEntryStore (G : Nat) (x y z : V) (H : Hp) (k : K1) : Ans :=
  match x with
  | .map i => match y with
    | .int .i64 (.ofNat n) => get (H.get i) fun
      | .map es c => iff (Nat.ble G i) (get (bornAt n es) fun j => get (es[j]?) fun e => nat (bit i) fun b => k (.val (.tuple [])) (H.put i (.map (es.set j (e.1, z, e.2.2)) c)) b b) .no
      | _ => .no
    | _ => .no
  | _ => .no
noncomputable def xRange (P : Program) (t : TypeId) (x : V) (H : Hp) (k : K1) : Ans :=
  match P.underlying t with
  | some .string => match x with
    | .str s => newRowR H (.iter (some s) 0) (fun i => .ptr i 0) k
    | _ => .no
  | some (.map _ _) => match x with
    | .nilm => newRowR H (.iter none 0) (fun i => .ptr i 0) k
    | _ => .no
  | _ => .no
noncomputable def xNext (G : Nat) (x : V) (str : Bool) (H : Hp) (k : K1) : Ans :=
  match x with
  | .ptr i 0 => get (H.get i) fun
    | .iter (some s) pos => iff str (iff (Nat.ble (Nat.succ pos) s.length)
        (iff (Nat.ble G i) (nat (Utf8.decode ⟨s.toArray⟩ pos).2 fun w => nat (bit i) fun b => nat (Nat.add pos w) fun p => (V.int .i32 (Utf8.decode ⟨s.toArray⟩ pos).1).firm fun c => k (.val (.tuple [.bool true, .int .i64 (.ofNat pos), c])) (H.put i (.iter (some s) p)) b b) .no)
        (nat (bit i) fun b => k (.val (.tuple [.bool false])) H b 0)) .no
    | .iter none _ => iff str .no (nat (bit i) fun b => k (.val (.tuple [.bool false])) H b 0)
    | _ => .no
  | _ => .no
abbrev EX := Program → Ext → Nat → Oper → LL → Hp → K1 → Ans
noncomputable def xMoveO (x : Operand) : EX := fun _ _ G _ T H k => get (ev G T x) fun v => pure1 v H k
noncomputable def xPickO (c a b : Operand) : EX := fun _ _ G _ T H k => get (ev G T c) fun c => xPick G T c a b H k
noncomputable def xNilCheckO (x : Operand) : EX := fun _ _ G _ T H k => get (ev G T x) fun x => xNilCheck x H k
noncomputable def xExtractO (x : Operand) (j : Nat) : EX := fun _ _ G _ T H k => get (ev G T x) fun x => xExtract x j H k
noncomputable def xLoadO (t : TypeId) (x : Operand) : EX := fun P _ G _ T H k => get (ev G T x) fun x => xLoad P t x H k
noncomputable def xStoreO (t : TypeId) (x y : Operand) : EX := fun P _ G _ T H k => get (ev G T x) fun x => get (ev G T y) fun y => xStore P G t x y H k
noncomputable def xAllocO (t : TypeId) : EX := fun P _ _ _ _ H k => get (perT P t) fun z => Per.rec (motive := fun _ => Ans) (fun n z => iff (small n) (newRowR H (.row t n n ⟨n, z⟩ .nil false) (fun i => .ptr i 0) k) .no) z
noncomputable def xBoxO (t : TypeId) (x : Operand) : EX := fun _ _ G _ T H k => get (ev G T x) fun v => nat v.cells.length fun n => iff (small n && v.cells.all V.one) (newRowR H (.row t n n noPer (writeCells v.cells .nil 0) false) (fun i => .ptr i 0) k) .no
noncomputable def xBuildO (t : TypeId) (ps : Array (Nat × Operand)) : EX := fun P _ G _ T H k => get (evp G T ps.toList) fun l => get (zeroT P t) fun z => get (buildL P t l z) fun cs => pure1 (.agg cs) H k
noncomputable def xBuildSliceO (t : TypeId) (len : Nat) (ps : Array (Nat × Operand)) : EX := fun P _ G _ T H k => get (evp G T ps.toList) fun l => xBuildSlice P t len l H k
noncomputable def xMakeSliceO (t : TypeId) (a b : Operand) : EX := fun P _ G _ T H k => get (ev G T a) fun a => get (ev G T b) fun b => xMakeSlice P t a b H k
noncomputable def xFieldAddrO (s : TypeId) (x : Operand) (f : Nat) : EX := fun P _ G _ T H k => get (ev G T x) fun x => xField P s x f H k
noncomputable def xFieldO (s : TypeId) (x : Operand) (f : Nat) : EX := fun P _ G _ T H k => get (ev G T x) fun x => xFieldV P s x f H k
noncomputable def xIndexAddrO (t : TypeId) (x y : Operand) : EX := fun P _ G _ T H k => get (ev G T x) fun x => get (ev G T y) fun y => xIndexAddr P t x y H k
noncomputable def xIndexO (t : TypeId) (x y : Operand) : EX := fun P _ G o T H k => get (ev G T x) fun x => get (ev G T y) fun y => xIndex P G o t x y T H k
noncomputable def xSliceO (t : TypeId) (x : Operand) (lo hi mx : Option Operand) : EX := fun P _ G o T H k => get (ev G T x) fun x => xSlice P G o t x lo hi mx T H k
noncomputable def xBinO (op : BinOp) (t : TypeId) (x y : Operand) (_ : TypeId) : EX := fun P _ G o T H k => get (ev G T x) fun a => get (ev G T y) fun b => xBin P G o op t a b T H k
noncomputable def xUnO (op : UnOp) (_ : TypeId) (x : Operand) : EX := fun P _ G o T H k => get (ev G T x) fun x => xUn P G o op x T H k
noncomputable def xMakeIfaceO (t : TypeId) (x : Operand) : EX := fun P _ G _ T H k => get (ev G T x) fun v => xMakeIface P t v H k
noncomputable def xMakeFuncO (f : Fn) (a b : Array Operand) : EX := fun _ _ G _ T H k => get (evs G T a.toList) fun l => get (evs G T b.toList) fun m => xMakeFunc f l m H k
noncomputable def xAssertO (x : Operand) (_ t : TypeId) (ok : Bool) : EX := fun P _ G _ T H k => get (ev G T x) fun x => xAssert P t ok x H k
noncomputable def xConvertO (s d : TypeId) (x : Operand) : EX := fun P _ G o T H k => get (ev G T x) fun x => xConvert P G o s d x T H k
noncomputable def xCallO (c : Call) : EX := fun P X G o T H k => callOp P X G o c T H k
noncomputable def xDeferO (c : Call) : EX := fun _ _ G _ T H k => xDefer G c T H k
noncomputable def xMakeMapO (_ : TypeId) (r : Option Operand) : EX := fun _ _ _ _ _ H k => match r with | none => xMakeMap H k | some _ => .no
noncomputable def xLookupO (t : TypeId) (x y : Operand) (ok : Bool) : EX := fun P _ G _ T H k => get (ev G T x) fun x => get (ev G T y) fun y => xLookup P t x y ok H k
noncomputable def xMapUpdateO (t : TypeId) (x y z : Operand) : EX := fun P _ G _ T H k => get (ev G T x) fun x => get (ev G T y) fun y => get (ev G T z) fun z => xMapUpdate P G t x y z H k
noncomputable def xMapEntryO (t : TypeId) (x y : Operand) : EX := fun P _ G _ T H k => get (ev G T x) fun x => get (ev G T y) fun y => xMapEntry P G t x y H k
noncomputable def xEntryStoreO (_ : TypeId) (x y z : Operand) : EX := fun _ _ G _ T H k => get (ev G T x) fun x => get (ev G T y) fun y => get (ev G T z) fun z => xEntryStore G x y z H k
noncomputable def xRangeO (t : TypeId) (x : Operand) : EX := fun P _ G _ T H k => get (ev G T x) fun x => xRange P t x H k
noncomputable def xNextO (x : Operand) (str : Bool) : EX := fun _ _ G _ T H k => get (ev G T x) fun x => xNext G x str H k
def xNo : EX := fun _ _ _ _ _ _ _ => .no
noncomputable def execF (op : Op) : EX := Op.casesOn (motive := fun _ => EX) op
  xMoveO
  xMoveO
  xPickO
  xAllocO
  xBoxO
  xBuildO
  xBuildSliceO
  xMapUpdateO
  xLoadO
  xStoreO
  (fun _ => xNo)
  (fun _ => xNo)
  xNilCheckO
  xBinO
  xUnO
  xConvertO
  (fun _ _ => xNo)
  xMakeIfaceO
  xMakeFuncO
  xMakeMapO
  (fun _ _ => xNo)
  xMakeSliceO
  xSliceO
  xFieldAddrO
  xFieldO
  xIndexAddrO
  xIndexO
  xLookupO
  xMapUpdateO
  xMapEntryO
  xEntryStoreO
  xRangeO
  xNextO
  (fun _ => xNo)
  xAssertO
  xExtractO
  xCallO
  (fun _ => xNo)
  xDeferO
  (fun _ => xNo)
  (fun _ _ => xNo)
  (fun _ _ _ => xNo)
  (fun _ _ => xNo)
inductive I where
  | code (c : Code)
  | inBlock (id : Nat)
  | inLoop (b : Code)
  | inScope (b : Code)
  | endRange (i : Nat)
  | beginRound
structure Fr where
  fn : FuncId
  T : Tr V
  n : Nat
  todo : List I
  defers : List D
  ret : Bool
  dfd : Bool
  round : Option Nat
noncomputable def exitToA (id : Nat) (k : List I) : Option (List I) :=
  List.rec (motive := fun _ => Option (List I)) none (fun x k r => match x with
    | .inBlock id' => iff (Nat.beq id' id) (some k) r
    | _ => r) k
noncomputable def gotoInA (l : Nat) (k : List I) : Option (List I) :=
  List.rec (motive := fun _ => Option (List I)) none (fun x k r => match x with
    | .inScope body => match findLabel body l with
      | some rest => some (.code rest :: .inScope body :: k)
      | none => r
    | _ => r) k
abbrev K2 := V → Hp → Nat → Nat → Ans
abbrev Runner := Fr → Hp → Nat → Nat → K2 → Ans
noncomputable def argsT (l : List V) : Nat → Tr V → Tr V :=
  List.rec (motive := fun _ => Nat → Tr V → Tr V) (fun _ t => t) (fun v _ r i t => r (Nat.succ i) (t.put i v)) l
noncomputable def enterA (P : Program) (f : FuncId) (args : List V) (dfd : Bool) : Option Fr :=
  opt (P.funcs[f]?) fun fn => opt fn.body fun c => iff (Nat.ble args.length fn.ntmps) (some ⟨f, argsT args 0 .nil, fn.ntmps, [.code c], [], false, dfd, none⟩) none
noncomputable def roundA (H : Hp) (i : Nat) (args : List V) : Option Fr :=
  opt (H.get i) fun
  | .loop _ _ fn T nt params assign body _ =>
    iff (Nat.beq args.length params.length && params.all (fun p => Nat.ble (Nat.succ p) nt)) (some ⟨fn, (params.zip args).foldl (fun t pa => t.put pa.1 pa.2) T, nt, [.code assign, .beginRound, .code body], [], false, false, some i⟩) none
  | _ => none
noncomputable def wantedA (T : LL) (g : Option (Nat × Bool)) : Option Bool :=
  match g with
  | none => some true
  | some (d, want) => opt (T.get d) fun
    | .bool b => some (iff want b (!b))
    | .tuple [] => some false
    | _ => none
/-- What follows an operation that is done: the temporaries, the deferred calls, the memory; the blocks that it read, those that it wrote. -/
abbrev K3 := LL → List D → Hp → Nat → Nat → Ans
noncomputable def lay (T : LL) (n : Nat) (d : Option Tmp) (v : V) (ds : List D) (H : Hp) (rd wr : Nat) (k : K3) : Ans :=
  Option.rec (motive := fun _ => Ans) (k T ds H rd wr) (fun d => iff (Nat.ble (Nat.succ d) n) (k (.cons d v T) ds H rd wr) .no) d
/-- An operation carried out to its end. -/
noncomputable def finish (P : Program) (X : Ext) (run : Runner) (dr : Bool) (rnd : Option Nat) (T : LL) (n : Nat) (d : Option Tmp) (ds : List D) (k : K3) : K1 := fun out H rd wr =>
  Out.rec (motive := fun _ => Ans) (fun v => lay T n d v ds H rd wr k) (fun f args => Option.rec (motive := fun _ => Ans) (Option.rec (motive := fun _ => Ans) (get (enterA P f args false) fun g => run g H rd wr fun v H rd wr => lay T n d v ds H rd wr k)
      (fun x => iff (Nat.beq rd 0) (iff (Nat.beq wr 0) (iff (x.fits args H) (lay T n d x.v ds x.H' x.rd x.wr k) .no) .no) .no) (X.known f H.next))
      (fun c => iff (Nat.beq rd 0) (iff (Nat.beq wr 0) (iff (c.fits args H) (lay T n d (.bool c.b) ds H c.rd 0 k) .no) .no) .no) (X.closed f))
    (fun i args => get (roundA H i args) fun g => run g H rd wr fun v H rd wr => lay T n d v ds H rd wr k)
    (fun e => iff dr .no (Option.rec (motive := fun _ => Ans) (lay T n d (.tuple []) (e :: ds) H rd wr k) (fun _ => .no) rnd))
    (Option.rec (motive := fun _ => Ans) (lay T n d .nili ds H rd wr k) (fun _ => .no) rnd) out
/-- An operation made ready: the slot and the answer that it waits for; those that stand ahead of it in every order. -/
structure Pre where
  o : Oper
  gd : Option (Nat × Bool)
  bef : Nat
noncomputable def oneOp (P : Program) (X : Ext) (G : Nat) (run : Runner) (dr : Bool) (rnd : Option Nat) (n : Nat) (o : Oper) (gd : Option (Nat × Bool)) (T : LL) (ds : List D) (H : Hp) (k : K3) : Ans :=
  get (wantedA T gd) fun w => iff w (execF o.op P X G o T H (finish P X run dr rnd T n o.dst ds k)) (lay T n o.dst (.tuple []) ds H 0 0 k)
/-- The temporaries that an operation looks at. -/
def looks (o : Oper) (gd : Option (Nat × Bool)) : Nat :=
  let m := o.op.operands.toList.foldl (fun m x => match x with | .tmp t => Nat.lor m (bit t) | _ => m) 0
  match gd with
  | none => m
  | some (d, _) => Nat.lor m (bit d)
def dstM (o : Oper) : Nat := match o.dst with | some t => bit t | none => 0
/-- Which operations stand ahead of one, whatever the order; none: an edge leads ahead. -/
def befOf (done : List Nat) (i : Nat) (es : List Edge) (m : Nat) : Option Nat :=
  match es with
  | [] => some m
  | e :: es => bif Region.binds .any e then
      (bif Nat.ble (Nat.succ e.on) i then match done[i - 1 - e.on]? with
        | some d => befOf done i es (Nat.lor m (Nat.lor (bit e.on) d))
        | none => none
      else none)
    else befOf done i es m
def guardOf (ops : Array Oper) (o : Oper) : Option (Option (Nat × Bool)) :=
  match o.guard with
  | none => some none
  | some (j, want) => match (ops[j]?).bind (·.dst) with
    | some d => some (some (d, want))
    | none => none
/-- Are the temporaries of an operation free of those of each that is told ahead of it but need not be? 'done': the nearest one first. -/
def apartT (b tr tw : Nat) : List (Nat × Nat) → Nat → Bool
  | [], _ => true
  | (r, w) :: l, i => (tb b (i - 1) || (Nat.beq (Nat.land w (Nat.lor tr tw)) 0 && Nat.beq (Nat.land r tw) 0)) && apartT b tr tw l (i - 1)
/-- A region made ready, with what can be told of it without running it. -/
def prepD (ops : Array Oper) : List Oper → Nat → List Nat → List (Nat × Nat) → Option (List Pre)
  | [], _, _, _ => some []
  | o :: l, i, done, ts => match o.op with
    | .defer _ => none
    | _ => match befOf done i o.after.toList 0, guardOf ops o with
      | some b, some g => bif apartT b (looks o g) (dstM o) ts i then match prepD ops l (i + 1) (b :: done) ((looks o g, dstM o) :: ts) with
          | some r => some (⟨o, g, b⟩ :: r)
          | none => none
        else none
      | _, _ => none
def prepS (ops : Array Oper) : List Oper → Option (List Pre)
  | [] => some []
  | o :: l => match guardOf ops o, prepS ops l with
    | some g, some r => some (⟨o, g, 0⟩ :: r)
    | _, _ => none
/-- Is an operation free of each of those that are told ahead of it but need not be? 'done': the nearest one first. -/
noncomputable def apartA (b rd wr : Nat) (l : List (Nat × Nat)) : Nat → Bool :=
  List.rec (motive := fun _ => Nat → Bool) (fun _ => true) (fun e _ r i => iff (tb b (i - 1) || (Nat.beq (Nat.land e.2 (Nat.lor rd wr)) 0 && Nat.beq (Nat.land e.1 wr) 0)) (r (i - 1)) false) l
/-- A region whose order is drawn. -/
noncomputable def drawn (P : Program) (X : Ext) (G : Nat) (run : Runner) (rnd : Option Nat) (n : Nat) (ds : List D) (k : K3) (l : List Pre) : Nat → List (Nat × Nat) → LL → Hp → Nat → Nat → Ans :=
  List.rec (motive := fun _ => Nat → List (Nat × Nat) → LL → Hp → Nat → Nat → Ans) (fun _ _ T H rd wr => k T ds H rd wr)
    (fun p _ rec i done T H rd wr => Pre.rec (motive := fun _ => Ans) (fun o gd b => oneOp P X G run true rnd n o gd T ds H fun T' _ H' r w =>
        nat r fun r => nat w fun w => iff ((Nat.beq (Nat.land wr (Nat.lor r w)) 0 && Nat.beq (Nat.land rd w) 0) || apartA b r w done i) (nat (Nat.lor rd r) fun rd => nat (Nat.lor wr w) fun wr => rec (Nat.succ i) ((r, w) :: done) T' H' rd wr) .no) p) l
/-- A region in its order. -/
noncomputable def inTurn (P : Program) (X : Ext) (G : Nat) (run : Runner) (rnd : Option Nat) (n : Nat) (k : K3) (l : List Pre) : LL → List D → Hp → Nat → Nat → Ans :=
  List.rec (motive := fun _ => LL → List D → Hp → Nat → Nat → Ans) (fun T ds H rd wr => k T ds H rd wr)
    (fun p _ rec T ds H rd wr => Pre.rec (motive := fun _ => Ans) (fun o gd _ => oneOp P X G run false rnd n o gd T ds H fun T ds H r w => nat (Nat.lor rd r) fun rd => nat (Nat.lor wr w) fun wr => rec T ds H rd wr) p) l
noncomputable def resultsA (P : Program) (T : Tr V) (H : Hp) (l : List ResultVar) : Option (List V × Nat) :=
  List.rec (motive := fun _ => Option (List V × Nat)) (some ([], 0)) (fun x _ r => match x with
    | .tmp t => opt (T.get t) fun v => opt r fun (vs, m) => some (v :: vs, m)
    | .cell a t => opt (T.get a) fun
      | .ptr i off => opt (H.get i) fun
        | .row _ _ n per tr _ => opt (loadT P t per tr n off) fun v => opt r fun (vs, m) => some (v :: vs, Nat.lor m (bit i))
        | _ => none
      | _ => none) l
def one (l : List V) : V := match l with | [v] => v | l => .tuple l
noncomputable def leaveA (G : Nat) (fn : FuncId) (T : Tr V) (n : Nat) (ds : List D) (dfd : Bool) (rnd : Option Nat) (H : Hp) (rd wr : Nat) (jump : Option Code) (run : Runner) (q : K2) : Ans :=
  match rnd with
  | none => match jump with
    | none | some .ret => run ⟨fn, T, n, [], ds, true, dfd, none⟩ H rd wr q
    | _ => .no
  | some l => iff (!dfd && Nat.ble G l) (get (H.get l) fun
    | .loop _ _ fn T nt ps a b df => nat (Nat.lor rd (bit l)) fun rd => nat (Nat.lor wr (bit l)) fun wr => match jump with
      | none => q (.bool true) (H.put l (.loop .ready none fn T nt ps a b df)) rd wr
      | some c => q (.bool false) (H.put l (.loop .done (some c) fn T nt ps a b df)) rd wr
    | _ => .no) .no
noncomputable def stepRet (P : Program) (G : Nat) (run : Runner) (fn : FuncId) (T : Tr V) (n : Nat) (ds : List D) (dfd : Bool) (rnd : Option Nat) (H : Hp) (rd wr : Nat) (q : K2) : Ans :=
  match ds with
  | [] => match rnd with
    | none => get (P.funcs[fn]?) fun f => get (resultsA P T H f.results.toList) fun (l, m) => nat (Nat.lor rd m) fun rd => q (one l) H rd wr
    | some _ => .no
  | .mark i :: ds => iff (Nat.ble G i) (get (H.get i) fun
    | .defd (some l) => nat (Nat.lor rd (bit i)) fun rd => nat (Nat.lor wr (bit i)) fun wr => run ⟨fn, T, n, [], l ++ ds, true, dfd, rnd⟩ (H.put i (.defd none)) rd wr q
    | _ => .no) .no
  | .call f args cap :: ds => iff (okFn P f) (get (enterA P f (args ++ cap) true) fun g => run g H rd wr fun _ H rd wr => run ⟨fn, T, n, [], ds, true, dfd, rnd⟩ H rd wr q) .no
noncomputable def stepRange (P : Program) (run : Runner) (fn : FuncId) (T : Tr V) (n : Nat) (ds : List D) (dfd : Bool) (rnd : Option Nat) (x : V) (ps : Array Tmp) (a b : Code) (k : List I) (H : Hp) (df : Nat) (mk : List D) (rd wr : Nat) (q : K2) : Ans :=
  match x with
  | .func f first cap => nat H.next fun l => iff (okFn P f) (get (enterA P f (first ++ [.yield l] ++ cap) false) fun g =>
      nat (Nat.lor wr (bit l)) fun wr => run g (H.new (.loop .ready none fn T n ps.toList a b df)) rd wr fun _ H rd wr => run ⟨fn, T, n, .endRange l :: k, mk ++ ds, false, dfd, rnd⟩ H rd wr q) .no
  | _ => .no
noncomputable def stepEnd (G : Nat) (run : Runner) (fn : FuncId) (T : Tr V) (n : Nat) (ds : List D) (dfd : Bool) (rnd : Option Nat) (i : Nat) (k : List I) (H : Hp) (rd wr : Nat) (q : K2) : Ans :=
  iff (Nat.ble G i) (get (H.get i) fun
  | .loop st pend fn' T' nt ps a b df =>
    match st with
    | .busy => .no
    | _ => nat (Nat.lor rd (bit i)) fun rd => nat (Nat.lor wr (bit i)) fun wr => run ⟨fn, T, n, match pend with | some c => .code c :: k | none => k, ds, false, dfd, rnd⟩ (H.put i (.loop .exhausted pend fn' T' nt ps a b df)) rd wr q
  | _ => .no) .no
noncomputable def stepBegin (G : Nat) (run : Runner) (fn : FuncId) (T : Tr V) (n : Nat) (ds : List D) (dfd : Bool) (rnd : Option Nat) (k : List I) (H : Hp) (rd wr : Nat) (q : K2) : Ans :=
  get rnd fun i => iff (Nat.ble G i) (get (H.get i) fun
  | .loop .ready pend fn' T' nt ps a b df => nat (Nat.lor rd (bit i)) fun rd => nat (Nat.lor wr (bit i)) fun wr => run ⟨fn, T, n, k, ds, false, dfd, rnd⟩ (H.put i (.loop .busy pend fn' T' nt ps a b df)) rd wr q
  | _ => .no) .no
noncomputable def stepCond (run : Runner) (fn : FuncId) (T : Tr V) (n : Nat) (ds : List D) (dfd : Bool) (rnd : Option Nat) (x : V) (a b : Code) (k : List I) (H : Hp) (rd wr : Nat) (q : K2) : Ans :=
  match x with
  | .bool t => iff t (run ⟨fn, T, n, .code a :: k, ds, false, dfd, rnd⟩ H rd wr q) (run ⟨fn, T, n, .code b :: k, ds, false, dfd, rnd⟩ H rd wr q)
  | _ => .no
/-- Which slots are looked at elsewhere than in a region: of a function, of a region. (A word of advice alone: what is not kept can't be read.) -/
abbrev Hint := Nat → Nat → Nat
abbrev SX := Program → Ext → Nat → Hint → Runner → FuncId → Tr V → Nat → List D → Bool → Option Nat → List I → Hp → Nat → Nat → K2 → Ans
noncomputable def sSkip  : SX := fun _ _ _ _ run fn T n ds dfd rnd k H rd wr q => run ⟨fn, T, n, k, ds, false, dfd, rnd⟩ H rd wr q
noncomputable def sRegion (id : Nat) (ops : Array Oper) (draw : Bool) : SX := fun P X G K run fn T n ds dfd rnd k H rd wr q => iff draw
      (get (prepD ops ops.toList 0 [] []) fun l => drawn P X G run rnd n ds (fun T ds H r w => nat (Nat.lor rd r) fun rd => nat (Nat.lor wr w) fun wr => run ⟨fn, T.flush (K fn id), n, k, ds, false, dfd, rnd⟩ H rd wr q) l 0 [] (.base T) H 0 0)
      (get (prepS ops ops.toList) fun l => inTurn P X G run rnd n (fun T ds H rd wr => run ⟨fn, T.flush (K fn id), n, k, ds, false, dfd, rnd⟩ H rd wr q) l (.base T) ds H rd wr)
noncomputable def sSeq (a b : Code) : SX := fun _ _ _ _ run fn T n ds dfd rnd k H rd wr q => run ⟨fn, T, n, .code a :: .code b :: k, ds, false, dfd, rnd⟩ H rd wr q
noncomputable def sCond (x : Operand) (a b : Code) : SX := fun _ _ G _ run fn T n ds dfd rnd k H rd wr q => get (ev G (.base T) x) fun x => stepCond run fn T n ds dfd rnd x a b k H rd wr q
noncomputable def sBlock (id : Nat) (b : Code) : SX := fun _ _ _ _ run fn T n ds dfd rnd k H rd wr q => run ⟨fn, T, n, .code b :: .inBlock id :: k, ds, false, dfd, rnd⟩ H rd wr q
noncomputable def sLoop (b : Code) : SX := fun _ _ _ _ run fn T n ds dfd rnd k H rd wr q => run ⟨fn, T, n, .code b :: .inLoop b :: k, ds, false, dfd, rnd⟩ H rd wr q
noncomputable def sRangeF (x : Operand) (ps : Array Tmp) (a b : Code) : SX := fun P _ G _ run fn T n ds dfd rnd k H rd wr q => get (ev G (.base T) x) fun x =>
      match rnd with
      | some l => get (H.get l) fun
        | .loop _ _ _ _ _ _ _ _ df => nat (Nat.lor rd (bit l)) fun rd => stepRange P run fn T n ds dfd rnd x ps a b k H df [] rd wr q
        | _ => .no
      | none => nat H.next fun m => nat (Nat.lor wr (bit m)) fun wr => stepRange P run fn T n ds dfd rnd x ps a b k (H.new (.defd (some []))) m [.mark m] rd wr q
noncomputable def sExit (id : Nat) : SX := fun _ _ G _ run fn T n ds dfd rnd k H rd wr q => match exitToA id k with
    | some k => run ⟨fn, T, n, k, ds, false, dfd, rnd⟩ H rd wr q
    | none => leaveA G fn T n ds dfd rnd H rd wr (some (.exit id)) run q
noncomputable def sScope (b : Code) : SX := fun _ _ _ _ run fn T n ds dfd rnd k H rd wr q => run ⟨fn, T, n, .code b :: .inScope b :: k, ds, false, dfd, rnd⟩ H rd wr q
noncomputable def sLabel (_ : Nat) : SX := fun _ _ _ _ run fn T n ds dfd rnd k H rd wr q => run ⟨fn, T, n, k, ds, false, dfd, rnd⟩ H rd wr q
noncomputable def sGoto (l : Nat) : SX := fun _ _ G _ run fn T n ds dfd rnd k H rd wr q => match gotoInA l k with
    | some k => run ⟨fn, T, n, k, ds, false, dfd, rnd⟩ H rd wr q
    | none => leaveA G fn T n ds dfd rnd H rd wr (some (.goto l)) run q
noncomputable def sRet  : SX := fun _ _ G _ run fn T n ds dfd rnd _ H rd wr q => leaveA G fn T n ds dfd rnd H rd wr (some .ret) run q
noncomputable def sRefuse (_ : String) : SX := fun _ _ _ _ _ _ _ _ _ _ _ _ _ _ _ _ => .no
noncomputable def stepF (c : Code) : SX := Code.casesOn (motive := fun _ => SX) c sSkip sRegion sSeq sCond sBlock sLoop sRangeF sExit sScope sLabel sGoto sRet sRefuse
noncomputable def stepA (P : Program) (X : Ext) (G : Nat) (K : Hint) (run : Runner) (fr : Fr) (H : Hp) (rd wr : Nat) (q : K2) : Ans :=
  match fr with
  | ⟨fn, T, n, todo, ds, ret, dfd, rnd⟩ => iff ret (stepRet P G run fn T n ds dfd rnd H rd wr q)
    (match todo with
    | [] => leaveA G fn T n ds dfd rnd H rd wr none run q
    | x :: k => match x with
      | .code c => stepF c P X G K run fn T n ds dfd rnd k H rd wr q
      | .inBlock _ => run ⟨fn, T, n, k, ds, false, dfd, rnd⟩ H rd wr q
      | .inScope _ => run ⟨fn, T, n, k, ds, false, dfd, rnd⟩ H rd wr q
      | .inLoop b => run ⟨fn, T, n, .code b :: .inLoop b :: k, ds, false, dfd, rnd⟩ H rd wr q
      | .endRange i => stepEnd G run fn T n ds dfd rnd i k H rd wr q
      | .beginRound => stepBegin G run fn T n ds dfd rnd k H rd wr q)
noncomputable def runA (P : Program) (X : Ext) (G : Nat) (K : Hint) (n : Nat) : Runner :=
  Nat.rec (motive := fun _ => Runner) (fun _ _ _ _ _ => .no) (fun _ run fr H rd wr q => stepA P X G K run fr H rd wr q) n
/-- A call, run to its end; what is asked of it there. -/
noncomputable def callA (P : Program) (X : Ext) (G : Nat) (K : Hint) (n : Nat) (f : FuncId) (args : List V) (H : Hp) (q : K2) : Ans :=
  get (enterA P f args false) fun g => runA P X G K n g H 0 0 q
def saysTrue : K2 := fun v _ _ _ => match v with | .bool true => .ok | _ => .no
end Go.Proofs.YtdldpehmcfbbeaaGreatDoor.Ev
