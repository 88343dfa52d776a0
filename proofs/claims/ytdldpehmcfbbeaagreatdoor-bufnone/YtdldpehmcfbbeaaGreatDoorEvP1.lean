/- The evaluator with panics: a call that gives up along a way that is told ahead (in which region of each function, at which operation), and the frame whose deferred call recovers. What it is; EvP2 and its kin show that the machine does so. No condition. -/
import Derived.Test.YtdldpehmcfbbeaaGreatDoorEvP0
namespace Go.Proofs.YtdldpehmcfbbeaaGreatDoor.Ev
/-- Where a function gives up: its region, the operation there, how often that region is gone through ahead of it. -/
abbrev Sites := FuncId → Option (Nat × Nat × Nat)
/-- What follows where a frame has given up: the value, the temporaries, the deferred calls, the memory, what was read and written. -/
abbrev K4 := V → Tr V → List D → Hp → Nat → Nat → Ans
/-- Which loads of a region that draws its order tell the same whenever they are made: of a function, of a region. (Advice alone.) -/
abbrev Frees := FuncId → Nat → Option Nat
abbrev Dier := Sites → Nat → Fr → Hp → Nat → Nat → K4 → Ans
/-- What is put out for what a list of deferred calls asks: none is left. -/
noncomputable def noDs (ds : List D) (x : Ans) : Ans := List.casesOn (motive := fun _ => Ans) ds x (fun _ _ => .no)
/-- The operation at which a frame gives up. -/
noncomputable def dieOp (P : Program) (X : Ext) (G : Nat) (S : Sites) (die : Dier) (p : Pre) (keep : Nat) (T : LL) (ds : List D) (H : Hp) (rd wr : Nat) (Q : K4) : Ans :=
  get (wantedA T p.gd) fun w => iff w (match p.o.op with
    | .panic x => get (ev G T x) fun v => match v with
      | .iface t u => Q (.iface t u) (T.flush keep) ds H rd wr
      | _ => .no
    | .call c => execF (.call c) P X G p.o T H fun out H1 r1 w1 => match out with
      | .call f args => nat (Nat.lor rd r1) fun rd => nat (Nat.lor wr w1) fun wr => get (enterA P f args false) fun g => get (S f) fun s => die S s.2.2 g H1 rd wr fun v _ ds1 H2 rd wr => noDs ds1 (Q v (T.flush keep) ds H2 rd wr)
      | _ => .no
    | _ => .no) .no
/-- A region gone through to its end, on the way to where the frame gives up. -/
noncomputable def sRegionD (F : Frees) (P : Program) (X : Ext) (G : Nat) (K : Hint) (run : Runner) (fn : FuncId) (T : Tr V) (n : Nat) (ds : List D) (dfd : Bool) (k : List I) (H : Hp) (rd wr : Nat) (id : Nat) (ops : Array Oper) (draw : Bool) (go : Fr → Hp → Nat → Nat → Ans) : Ans :=
  iff draw
    (get (prepD ops ops.toList 0 [] []) fun l => Option.rec (motive := fun _ => Ans) (drawn P X G run none n ds (fun T ds H r w => nat (Nat.lor rd r) fun rd => nat (Nat.lor wr w) fun wr => go ⟨fn, T.flush (K fn id), n, k, ds, false, dfd, none⟩ H rd wr) l 0 [] (.base T) H 0 0) (fun M => drawnF P X G run none n ds (fun T ds H r w => nat (Nat.lor rd r) fun rd => nat (Nat.lor wr w) fun wr => go ⟨fn, T.flush (K fn id), n, k, ds, false, dfd, none⟩ H rd wr) M l 0 [] [] [H] (.base T) H 0 0) (F fn id))
    (get (prepS ops ops.toList) fun l => inTurn P X G run none n (fun T ds H rd wr => go ⟨fn, T.flush (K fn id), n, k, ds, false, dfd, none⟩ H rd wr) l (.base T) ds H rd wr)
/-- The region where the frame gives up. -/
noncomputable def sRegionE (P : Program) (X : Ext) (G : Nat) (K : Hint) (run : Runner) (die : Dier) (S : Sites) (i : Nat) (fn : FuncId) (T : Tr V) (n : Nat) (ds : List D) (H : Hp) (rd wr : Nat) (id : Nat) (ops : Array Oper) (draw : Bool) (Q : K4) : Ans :=
  iff draw .no (get (prepS ops ops.toList) fun l => get (l[i]?) fun p => inTurn P X G run none n (fun T ds H rd wr => dieOp P X G S die p (K fn id) T ds H rd wr Q) (l.take i) (.base T) ds H rd wr)
/-- What a frame has to do next, where that is no region: what it has to do behind it. -/
noncomputable def dieTurn (G : Nat) (T : Tr V) (x : I) (k : List I) (go : List I → Ans) : Ans :=
  match x with
  | .code c => match c with
    | .skip => go k
    | .label _ => go k
    | .seq a b => go (.code a :: .code b :: k)
    | .cond x a b => get (ev G (.base T) x) fun v => match v with
      | .bool t => iff t (go (.code a :: k)) (go (.code b :: k))
      | _ => .no
    | .block id b => go (.code b :: .inBlock id :: k)
    | .loop b => go (.code b :: .inLoop b :: k)
    | .scope b => go (.code b :: .inScope b :: k)
    | .exit id => get (exitToA id k) go
    | .goto l => get (gotoInA l k) go
    | _ => .no
  | .inBlock _ => go k
  | .inScope _ => go k
  | .inLoop b => go (.code b :: .inLoop b :: k)
  | _ => .no
/-- A step of a frame that gives up further on. -/
noncomputable def dieS (F : Frees) (P : Program) (X : Ext) (G : Nat) (K : Hint) (run : Runner) (die : Dier) (S : Sites) (c : Nat) (fr : Fr) (H : Hp) (rd wr : Nat) (Q : K4) : Ans :=
  match fr with
  | ⟨fn, T, n, x :: k, ds, false, dfd, none⟩ => match x with
    | .code (.region id ops draw) => get (S fn) fun s => iff (Nat.beq s.1 id)
        (iff (Nat.beq c 0) (sRegionE P X G K run die S s.2.1 fn T n ds H rd wr id ops draw Q) (sRegionD F P X G K run fn T n ds dfd k H rd wr id ops draw fun g H rd wr => die S (c - 1) g H rd wr Q))
        (sRegionD F P X G K run fn T n ds dfd k H rd wr id ops draw fun g H rd wr => die S c g H rd wr Q)
    | x => dieTurn G T x k fun k => die S c ⟨fn, T, n, k, ds, false, dfd, none⟩ H rd wr Q
  | _ => .no
/-- A deferred call that recovers first of all. -/
noncomputable def recA (P : Program) (X : Ext) (G : Nat) (K : Hint) (run : Runner) (g : Fr) (v : V) (H : Hp) (rd wr : Nat) (q : K2) : Ans :=
  match g with
  | ⟨fn, T, n, [.code (.seq (.region id ops false) rest)], [], false, true, none⟩ => get (prepS ops ops.toList) fun l => match l with
    | ⟨o, none, _⟩ :: l => execF o.op P X G o (.base T) H fun out H1 r1 w1 => match out with
      | .recover => nat (Nat.lor rd r1) fun rd => nat (Nat.lor wr w1) fun wr => lay (.base T) n o.dst v [] H1 rd wr fun T ds H rd wr => inTurn P X G run none n (fun T ds H rd wr => run ⟨fn, T.flush (K fn id), n, [.code rest], ds, false, true, none⟩ H rd wr q) l T ds H rd wr
      | _ => .no
    | _ => .no
  | _ => .no
/-- A frame whose work gives up, and whose first deferred call recovers. -/
noncomputable def catchA (P : Program) (X : Ext) (G : Nat) (K : Hint) (run : Runner) (die : Dier) (S : Sites) (fr : Fr) (H : Hp) (rd wr : Nat) (q : K2) : Ans :=
  match fr with
  | ⟨fn, T, n, todo, ds, false, false, none⟩ => get (S fn) fun s => die S s.2.2 ⟨fn, T, n, todo, ds, false, false, none⟩ H rd wr fun v T' ds' H rd wr => match ds' with
    | .call f args cap :: ds' => iff (okFn P f) (get (enterA P f (args ++ cap) true) fun g => recA P X G K run g v H rd wr fun _ H rd wr => run ⟨fn, T', n, [], ds', true, false, none⟩ H rd wr q) .no
    | _ => .no
  | _ => .no
/-- Which functions recover what calls of theirs give up with; for each, by the number of blocks where it begins, the way on which it is given up. -/
structure Catches where
  on : FuncId → Bool
  at_ : FuncId → Nat → Option Sites
  free : Frees
noncomputable def atStart (fr : Fr) : Bool :=
  match fr with
  | ⟨_, _, _, [.code _], [], false, false, none⟩ => true
  | _ => false
/-- A region with such loads; els elsewhere. -/
noncomputable def regF (F : Frees) (P : Program) (X : Ext) (G : Nat) (K : Hint) (run : Runner) (fr : Fr) (H : Hp) (rd wr : Nat) (q : K2) (els : Ans) : Ans :=
  match fr with
  | ⟨fn, T, n, .code (.region id ops true) :: k, ds, false, dfd, rnd⟩ => Option.rec (motive := fun _ => Ans) els (fun M => get (prepD ops ops.toList 0 [] []) fun l => drawnF P X G run rnd n ds (fun T ds H r w => nat (Nat.lor rd r) fun rd => nat (Nat.lor wr w) fun wr => run ⟨fn, T.flush (K fn id), n, k, ds, false, dfd, rnd⟩ H rd wr q) M l 0 [] [] [H] (.base T) H 0 0) (F fn id)
  | _ => els
noncomputable def stepR (F : Frees) (P : Program) (X : Ext) (G : Nat) (K : Hint) (run : Runner) (fr : Fr) (H : Hp) (rd wr : Nat) (q : K2) : Ans :=
  regF F P X G K run fr H rd wr q (stepA P X G K run fr H rd wr q)
noncomputable def stepB (P : Program) (X : Ext) (G : Nat) (K : Hint) (C : Catches) (run : Runner) (die : Dier) (fr : Fr) (H : Hp) (rd wr : Nat) (q : K2) : Ans :=
  iff (C.on fr.fn) (iff (atStart fr) (Option.rec (motive := fun _ => Ans) (stepR C.free P X G K run fr H rd wr q) (fun S => catchA P X G K run die S fr H rd wr q) (C.at_ fr.fn H.next)) (stepR C.free P X G K run fr H rd wr q)) (stepR C.free P X G K run fr H rd wr q)
/-- Both runs: of frames that return, of frames that give up. -/
noncomputable def bothA (P : Program) (X : Ext) (G : Nat) (K : Hint) (C : Catches) (n : Nat) : Prod Runner Dier :=
  Nat.rec (motive := fun _ => Prod Runner Dier) (fun _ _ _ _ _ => .no, fun _ _ _ _ _ _ _ => .no) (fun _ r => (fun fr H rd wr q => stepB P X G K C r.1 r.2 fr H rd wr q, fun S c fr H rd wr Q => dieS C.free P X G K r.1 r.2 S c fr H rd wr Q)) n
/-- A call, run to its end; what is asked of it there. -/
noncomputable def callC (P : Program) (X : Ext) (G : Nat) (K : Hint) (C : Catches) (n : Nat) (f : FuncId) (args : List V) (H : Hp) (q : K2) : Ans :=
  get (enterA P f args false) fun g => (bothA P X G K C n).1 g H 0 0 q
end Go.Proofs.YtdldpehmcfbbeaaGreatDoor.Ev
