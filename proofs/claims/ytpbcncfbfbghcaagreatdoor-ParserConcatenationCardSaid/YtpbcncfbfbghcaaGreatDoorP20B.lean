/- The parser and the formatter as plain functions. No program is named here. More fuel changes no answer. No program is named here. What a successful parse says: well-formed, not too deep, not more tokens than were read. No program is named here. The formatted text of an expression is read back. No program is named here. What a successful parse says of statements and programs. No program is named here. The formatted text of statements and programs is read back. No program is named here. What a successful parse says of programs. No program is named here. -/
import Derived.Test.YtpbcncfbfbghcaaGreatDoorP20A
namespace Go.Proofs.YtpbcncfbfbghcaaGreatDoor.L20
open Mem L19
set_option linter.unusedVariables false
set_option linter.unusedSimpArgs false

abbrev Str := List UInt8
/-- A token without its line: kind, text. -/
abbrev Tk := Nat × Str

/-! ### Trees -/
inductive Exp where
  | num (n : Nat)
  | var (s : Str)
  | elem (s : Str) (i : Exp)
  | call (s : Str) (l : List Exp)
  | un (op : Str) (x : Exp)
  | bin (op : Str) (x y : Exp)
inductive Sta where
  | asg (s : Str) (x : Exp)
  | sto (s : Str) (i x : Exp)
  | ifs (x : Exp) (a b : List Sta)
  | whl (x : Exp) (a : List Sta)
  | ret (x : Exp)
  | cal (s : Str) (l : List Exp)
  | hlt
structure Fn where
  name : Str
  params : List Str
  locals : List Str
  body : List Sta
structure Prog where
  vars : List Str
  arrays : List (Str × Nat)
  funcs : List Fn
def Prog.nil : Prog := ⟨[], [], []⟩
theorem Exp.ind {P : Exp → Prop} (h1 : ∀ n, P (.num n)) (h2 : ∀ s, P (.var s)) (h3 : ∀ s i, P i → P (.elem s i)) (h4 : ∀ s l, (∀ x ∈ l, P x) → P (.call s l)) (h5 : ∀ op x, P x → P (.un op x)) (h6 : ∀ op x y, P x → P y → P (.bin op x y)) : ∀ x, P x
  | .num n => h1 n
  | .var s => h2 s
  | .elem s i => h3 s i (Exp.ind h1 h2 h3 h4 h5 h6 i)
  | .call s l => h4 s l (fun x hx => Exp.ind h1 h2 h3 h4 h5 h6 x)
  | .un op x => h5 op x (Exp.ind h1 h2 h3 h4 h5 h6 x)
  | .bin op x y => h6 op x y (Exp.ind h1 h2 h3 h4 h5 h6 x) (Exp.ind h1 h2 h3 h4 h5 h6 y)
termination_by x => SizeOf.sizeOf x
decreasing_by
  all_goals simp_wf
  all_goals first | omega | (have := List.sizeOf_lt_of_mem hx; omega)

theorem Sta.ind {P : Sta → Prop} (h1 : ∀ s x, P (.asg s x)) (h2 : ∀ s i x, P (.sto s i x)) (h3 : ∀ x a b, (∀ s ∈ a, P s) → (∀ s ∈ b, P s) → P (.ifs x a b)) (h4 : ∀ x a, (∀ s ∈ a, P s) → P (.whl x a)) (h5 : ∀ x, P (.ret x)) (h6 : ∀ s l, P (.cal s l)) (h7 : P .hlt) : ∀ s, P s
  | .asg s x => h1 s x
  | .sto s i x => h2 s i x
  | .ifs x a b => h3 x a b (fun s hs => Sta.ind h1 h2 h3 h4 h5 h6 h7 s) (fun s hs => Sta.ind h1 h2 h3 h4 h5 h6 h7 s)
  | .whl x a => h4 x a (fun s hs => Sta.ind h1 h2 h3 h4 h5 h6 h7 s)
  | .ret x => h5 x
  | .cal s l => h6 s l
  | .hlt => h7
termination_by s => SizeOf.sizeOf s
decreasing_by
  all_goals simp_wf
  all_goals (have := List.sizeOf_lt_of_mem hs; omega)

/-! ### Tokens -/
def sg (s : Str) : List Tk → Bool
  | [] => false
  | (k, T) :: _ => (k == 4 || k == 3) && T == s
def kd (k : Nat) : List Tk → Bool
  | [] => false
  | (j, _) :: _ => j == k
def tx : List Tk → Str
  | [] => []
  | (_, T) :: _ => T
def lev (op : Str) : Nat :=
  if op = [124, 124] then 1 else if op = [38, 38] then 2
  else if op = [61, 61] ∨ op = [33, 61] ∨ op = [60] ∨ op = [62] ∨ op = [60, 61] ∨ op = [62, 61] then 3
  else if op = [94] then 4 else if op = [43] ∨ op = [45] then 5
  else if op = [42] ∨ op = [47] ∨ op = [37] then 6 else 0
/-- The operator of a level that comes next. -/
def bop (lvl : Nat) (ts : List Tk) : Bool := kd 4 ts && lev (tx ts) == lvl
abbrev kVar : Str := [118, 97, 114]
abbrev kArray : Str := [97, 114, 114, 97, 121]
abbrev kFunc : Str := [102, 117, 110, 99]
abbrev kIf : Str := [105, 102]
abbrev kElse : Str := [101, 108, 115, 101]
abbrev kWhile : Str := [119, 104, 105, 108, 101]
abbrev kReturn : Str := [114, 101, 116, 117, 114, 110]
abbrev kHalt : Str := [104, 97, 108, 116]

/-! ### Results: what was read and what is left, or the error and the tokens from its place on -/
inductive Rs (α : Type) where
  | ok (a : α) (ts : List Tk)
  | bad (e : Nat) (ts : List Tk)
def bnd {α β : Type} (x : Option (Rs α)) (f : α → List Tk → Option (Rs β)) : Option (Rs β) :=
  match x with
  | none => none
  | some (.bad e ts) => some (.bad e ts)
  | some (.ok a ts) => f a ts
def want (s : Str) (ts : List Tk) : Rs Unit := if sg s ts then .ok () ts.tail else .bad 3 ts
def enter (s : Str) (o : Nat) (ts : List Tk) : Rs Unit := if sg s ts then (if o = 100 then .bad 6 ts else .ok () ts.tail) else .bad 3 ts
def name (ts : List Tk) : Rs Str := if kd 2 ts then .ok (tx ts) ts.tail else .bad 3 ts
def number (ts : List Tk) : Rs Nat := if kd 1 ts then .ok (nval (tx ts)) ts.tail else .bad 3 ts

/-! ### Expressions: n is fuel, o the open constructs -/
mutual
def expr : Nat → Nat → Nat → List Tk → Option (Rs Exp)
  | 0, _, _, _ => none
  | n + 1, lvl, o, ts => if lvl = 7 then unary n o ts else bnd (expr n (lvl + 1) o ts) fun x ts => loop n lvl o x ts
def loop : Nat → Nat → Nat → Exp → List Tk → Option (Rs Exp)
  | 0, _, _, _, _ => none
  | n + 1, lvl, o, x, ts =>
    if bop lvl ts then bnd (expr n (lvl + 1) o ts.tail) fun y ts' => if lvl = 3 then some (.ok (.bin (tx ts) x y) ts') else loop n lvl o (.bin (tx ts) x y) ts'
    else some (.ok x ts)
def unary : Nat → Nat → List Tk → Option (Rs Exp)
  | 0, _, _ => none
  | n + 1, o, ts =>
    if sg [45] ts || sg [33] ts then (if o = 100 then some (.bad 6 ts) else bnd (unary n (o + 1) ts.tail) fun x ts' => some (.ok (.un (tx ts) x) ts'))
    else primary n o ts
def primary : Nat → Nat → List Tk → Option (Rs Exp)
  | 0, _, _ => none
  | n + 1, o, ts =>
    if kd 1 ts then some (.ok (.num (nval (tx ts))) ts.tail)
    else if sg [40] ts then bnd (some (enter [40] o ts)) fun _ ts => bnd (expr n 1 (o + 1) ts) fun x ts => bnd (some (want [41] ts)) fun _ ts => some (.ok x ts)
    else bnd (some (name ts)) fun s ts =>
      if sg [40] ts then bnd (args n o ts) fun l ts => some (.ok (.call s l) ts)
      else if sg [91] ts then bnd (some (enter [91] o ts)) fun _ ts => bnd (expr n 1 (o + 1) ts) fun x ts => bnd (some (want [93] ts)) fun _ ts => some (.ok (.elem s x) ts)
      else some (.ok (.var s) ts)
def args : Nat → Nat → List Tk → Option (Rs (List Exp))
  | 0, _, _ => none
  | n + 1, o, ts => bnd (some (enter [40] o ts)) fun _ ts =>
    if sg [41] ts then some (.ok [] ts.tail)
    else bnd (expr n 1 (o + 1) ts) fun x ts => bnd (more n (o + 1) ts) fun l ts => bnd (some (want [41] ts)) fun _ ts => some (.ok (x :: l) ts)
def more : Nat → Nat → List Tk → Option (Rs (List Exp))
  | 0, _, _ => none
  | n + 1, o, ts =>
    if sg [44] ts then bnd (expr n 1 o ts.tail) fun x ts => bnd (more n o ts) fun l ts => some (.ok (x :: l) ts)
    else some (.ok [] ts)
end

/-! ### Statements -/
mutual
def stm : Nat → Nat → List Tk → Option (Rs Sta)
  | 0, _, _ => none
  | n + 1, o, ts =>
    if sg kIf ts then bnd (expr n 1 o ts.tail) fun x ts => bnd (block n o ts) fun a ts =>
      if sg kElse ts then bnd (block n o ts.tail) fun b ts => some (.ok (.ifs x a b) ts)
      else some (.ok (.ifs x a []) ts)
    else if sg kWhile ts then bnd (expr n 1 o ts.tail) fun x ts => bnd (block n o ts) fun a ts => some (.ok (.whl x a) ts)
    else if sg kReturn ts then bnd (expr n 1 o ts.tail) fun x ts => bnd (some (want [59] ts)) fun _ ts => some (.ok (.ret x) ts)
    else if sg kHalt ts then bnd (some (want [59] ts.tail)) fun _ ts => some (.ok (.hlt) ts)
    else bnd (some (name ts)) fun s ts =>
      if sg [40] ts then bnd (args n o ts) fun l ts => bnd (some (want [59] ts)) fun _ ts => some (.ok (.cal s l) ts)
      else if sg [91] ts then bnd (some (enter [91] o ts)) fun _ ts => bnd (expr n 1 (o + 1) ts) fun i ts => bnd (some (want [93] ts)) fun _ ts =>
        bnd (some (want [61] ts)) fun _ ts => bnd (expr n 1 o ts) fun x ts => bnd (some (want [59] ts)) fun _ ts => some (.ok (.sto s i x) ts)
      else bnd (some (want [61] ts)) fun _ ts => bnd (expr n 1 o ts) fun x ts => bnd (some (want [59] ts)) fun _ ts => some (.ok (.asg s x) ts)
def stms : Nat → Nat → List Tk → Option (Rs (List Sta))
  | 0, _, _ => none
  | n + 1, o, ts =>
    if sg [125] ts then some (.ok [] ts)
    else bnd (stm n o ts) fun s ts => bnd (stms n o ts) fun l ts => some (.ok (s :: l) ts)
def block : Nat → Nat → List Tk → Option (Rs (List Sta))
  | 0, _, _ => none
  | n + 1, o, ts => bnd (some (enter [123] o ts)) fun _ ts => bnd (stms n (o + 1) ts) fun l ts => bnd (some (want [125] ts)) fun _ ts => some (.ok l ts)
end

/-! ### Declarations -/
def nmore : Nat → List Tk → Option (Rs (List Str))
  | 0, _ => none
  | n + 1, ts =>
    if sg [44] ts then bnd (some (name ts.tail)) fun s ts => bnd (nmore n ts) fun l ts => some (.ok (s :: l) ts)
    else some (.ok [] ts)
def names (n : Nat) (ts : List Tk) : Option (Rs (List Str)) := bnd (some (name ts)) fun s ts => bnd (nmore n ts) fun l ts => some (.ok (s :: l) ts)
def vars (n : Nat) (ts : List Tk) : Option (Rs (List Str)) := bnd (names n ts.tail) fun l ts => bnd (some (want [59] ts)) fun _ ts => some (.ok l ts)
def lcls : Nat → List Tk → Option (Rs (List Str))
  | 0, _ => none
  | n + 1, ts =>
    if sg kVar ts then bnd (vars n ts) fun l ts => bnd (lcls n ts) fun m ts => some (.ok (l ++ m) ts)
    else some (.ok [] ts)
def arr (ts : List Tk) : Option (Rs (Str × Nat)) := bnd (some (name ts.tail)) fun s ts => bnd (some (enter [91] 0 ts)) fun _ ts => bnd (some (number ts)) fun k ts =>
  bnd (some (want [93] ts)) fun _ ts => bnd (some (want [59] ts)) fun _ ts => some (.ok (s, k) ts)
def prms (n : Nat) (ts : List Tk) : Option (Rs (List Str)) := if sg [41] ts then some (.ok [] ts) else names n ts
def func (n : Nat) (ts : List Tk) : Option (Rs Fn) := bnd (some (name ts.tail)) fun s ts => bnd (some (enter [40] 0 ts)) fun _ ts => bnd (prms n ts) fun p ts =>
  bnd (some (want [41] ts)) fun _ ts => bnd (some (enter [123] 0 ts)) fun _ ts => bnd (lcls n ts) fun l ts => bnd (stms n 1 ts) fun b ts => bnd (some (want [125] ts)) fun _ ts => some (.ok ⟨s, p, l, b⟩ ts)
def prog : Nat → Prog → List Tk → Option (Rs Prog)
  | 0, _, _ => none
  | n + 1, p, ts =>
    if ts = [] then some (.ok p [])
    else if sg kVar ts then bnd (vars n ts) fun l ts => prog n { p with vars := p.vars ++ l } ts
    else if sg kArray ts then bnd (arr ts) fun a ts => prog n { p with arrays := p.arrays ++ [a] } ts
    else if sg kFunc ts then bnd (func n ts) fun f ts => prog n { p with funcs := p.funcs ++ [f] } ts
    else some (.bad 3 ts)

/-! ### The formatted text: tokens, spaces, line feeds -/
inductive It where
  | t (k : Nat) (T : Str)
  | sp
  | nl
def str : Exp → Nat
  | .un _ _ => 7
  | .bin op _ _ => lev op
  | _ => 8
def par (lv : Nat) (x : Exp) (s : List It) : List It := if str x < lv then .t 4 [40] :: s ++ [.t 4 [41]] else s
def lft (op : Str) : Nat := if lev op = 3 then 4 else lev op
def sep : List (List It) → List It
  | [] => []
  | [a] => a
  | a :: b :: r => a ++ [.t 4 [44], .sp] ++ sep (b :: r)
mutual
def fe : Exp → List It
  | .num n => [.t 1 (dec n)]
  | .var s => [.t 2 s]
  | .elem s i => [.t 2 s, .t 4 [91]] ++ fe i ++ [.t 4 [93]]
  | .call s l => [.t 2 s, .t 4 [40]] ++ sep (fel l) ++ [.t 4 [41]]
  | .un op x => .t 4 op :: par 7 x (fe x)
  | .bin op x y => par (lft op) x (fe x) ++ [.sp, .t 4 op, .sp] ++ par (lev op + 1) y (fe y)
def fel : List Exp → List (List It)
  | [] => []
  | x :: r => fe x :: fel r
end
def ind : Nat → List It
  | 0 => []
  | k + 1 => .sp :: .sp :: ind k
mutual
def fs : Nat → Sta → List It
  | d, .asg s x => ind d ++ [.t 2 s, .sp, .t 4 [61], .sp] ++ fe x ++ [.t 4 [59], .nl]
  | d, .sto s i x => ind d ++ [.t 2 s, .t 4 [91]] ++ fe i ++ [.t 4 [93], .sp, .t 4 [61], .sp] ++ fe x ++ [.t 4 [59], .nl]
  | d, .ret x => ind d ++ [.t 3 kReturn, .sp] ++ fe x ++ [.t 4 [59], .nl]
  | d, .cal s l => ind d ++ fe (.call s l) ++ [.t 4 [59], .nl]
  | d, .hlt => ind d ++ [.t 3 kHalt, .t 4 [59], .nl]
  | d, .whl x a => ind d ++ [.t 3 kWhile, .sp] ++ fe x ++ [.sp, .t 4 [123], .nl] ++ fsl (d + 1) a ++ ind d ++ [.t 4 [125], .nl]
  | d, .ifs x a b => ind d ++ [.t 3 kIf, .sp] ++ fe x ++ [.sp, .t 4 [123], .nl] ++ fsl (d + 1) a ++ ind d ++
      (if b.isEmpty then [] else [.t 4 [125], .sp, .t 3 kElse, .sp, .t 4 [123], .nl] ++ fsl (d + 1) b ++ ind d) ++ [.t 4 [125], .nl]
def fsl : Nat → List Sta → List It
  | _, [] => []
  | d, s :: r => fs d s ++ fsl d r
end
def fns (l : List Str) : List It := sep (l.map fun s => [.t 2 s])
def fvars (d : Nat) (l : List Str) : List It := if l.isEmpty then [] else ind d ++ [.t 3 kVar, .sp] ++ fns l ++ [.t 4 [59], .nl]
def farr (a : Str × Nat) : List It := [.t 3 kArray, .sp, .t 2 a.1, .t 4 [91], .t 1 (dec a.2), .t 4 [93], .t 4 [59], .nl]
def ffn (f : Fn) : List It := [.t 3 kFunc, .sp, .t 2 f.name, .t 4 [40]] ++ fns f.params ++ [.t 4 [41], .sp, .t 4 [123], .nl] ++ fvars 1 f.locals ++ fsl 1 f.body ++ [.t 4 [125], .nl]
def fmt (p : Prog) : List It := fvars 0 p.vars ++ p.arrays.flatMap farr ++ p.funcs.flatMap ffn
def txt : List It → Str
  | [] => []
  | .t _ T :: r => T ++ txt r
  | .sp :: r => 32 :: txt r
  | .nl :: r => 10 :: txt r
def tks : List It → List Tk
  | [] => []
  | .t k T :: r => (k, T) :: tks r
  | .sp :: r => tks r
  | .nl :: r => tks r
theorem txt_app (a b : List It) : txt (a ++ b) = txt a ++ txt b := by
  induction a with
  | nil => rfl
  | cons x r ih => cases x <;> simp [txt, ih]
theorem tks_app (a b : List It) : tks (a ++ b) = tks a ++ tks b := by
  induction a with
  | nil => rfl
  | cons x r ih => cases x <;> simp [tks, ih]
theorem fel_map : ∀ l : List Exp, fel l = l.map fe
  | [] => by rw [fel]; rfl
  | x :: r => by rw [fel, fel_map r]; rfl
theorem tks_ind : ∀ d, tks (ind d) = []
  | 0 => rfl
  | d + 1 => by rw [ind, tks, tks, tks_ind d]
end Go.Proofs.YtpbcncfbfbghcaaGreatDoor.L20
namespace Go.Proofs.YtpbcncfbfbghcaaGreatDoor.L20
open Mem L19
set_option linter.unusedVariables false
set_option linter.unusedSimpArgs false

/-- What the one answers the other answers. -/
def Mo {β : Type} (x y : Option β) : Prop := ∀ r, x = some r → y = some r
theorem Mo.refl {β : Type} (x : Option β) : Mo x x := fun _ h => h
theorem Mo.trans {β : Type} {x y z : Option β} (h : Mo x y) (k : Mo y z) : Mo x z := fun r e => k r (h r e)
theorem Mo.none {β : Type} (x : Option β) : Mo none x := fun _ h => by cases h
theorem Mo.bnd {α β : Type} {x y : Option (Rs α)} {f g : α → List Tk → Option (Rs β)} (h : Mo x y) (k : ∀ a ts, Mo (f a ts) (g a ts)) : Mo (bnd x f) (bnd y g) := by
  intro r e
  cases x with
  | none => cases e
  | some v =>
    rw [h v rfl]
    cases v with
    | ok a ts => exact k a ts r e
    | bad c ts => exact e
theorem Mo.ite {β : Type} {c : Prop} [Decidable c] {x y x' y' : Option β} (h : Mo x x') (k : Mo y y') : Mo (if c then x else y) (if c then x' else y') := by
  split
  · exact h
  · exact k
theorem mono1 : ∀ n, (∀ lvl o ts, Mo (expr n lvl o ts) (expr (n + 1) lvl o ts)) ∧ (∀ lvl o x ts, Mo (loop n lvl o x ts) (loop (n + 1) lvl o x ts)) ∧ (∀ o ts, Mo (unary n o ts) (unary (n + 1) o ts)) ∧
    (∀ o ts, Mo (primary n o ts) (primary (n + 1) o ts)) ∧ (∀ o ts, Mo (args n o ts) (args (n + 1) o ts)) ∧ (∀ o ts, Mo (more n o ts) (more (n + 1) o ts))
  | 0 => ⟨fun _ _ _ => by rw [expr]; exact Mo.none _, fun _ _ _ _ => by rw [loop]; exact Mo.none _, fun _ _ => by rw [unary]; exact Mo.none _, fun _ _ => by rw [primary]; exact Mo.none _, fun _ _ => by rw [args]; exact Mo.none _, fun _ _ => by rw [more]; exact Mo.none _⟩
  | n + 1 => by
    obtain ⟨i1, i2, i3, i4, i5, i6⟩ := mono1 n
    refine ⟨fun lvl o ts => ?_, fun lvl o x ts => ?_, fun o ts => ?_, fun o ts => ?_, fun o ts => ?_, fun o ts => ?_⟩
    · rw [expr, expr]
      exact Mo.ite (i3 _ _) (Mo.bnd (i1 _ _ _) fun _ _ => i2 _ _ _ _)
    · rw [loop, loop]
      exact Mo.ite (Mo.bnd (i1 _ _ _) fun _ _ => Mo.ite (Mo.refl _) (i2 _ _ _ _)) (Mo.refl _)
    · rw [unary, unary]
      exact Mo.ite (Mo.ite (Mo.refl _) (Mo.bnd (i3 _ _) fun _ _ => Mo.refl _)) (i4 _ _)
    · rw [primary, primary]
      exact Mo.ite (Mo.refl _) (Mo.ite (Mo.bnd (Mo.refl _) fun _ _ => Mo.bnd (i1 _ _ _) fun _ _ => Mo.refl _)
        (Mo.bnd (Mo.refl _) fun _ _ => Mo.ite (Mo.bnd (i5 _ _) fun _ _ => Mo.refl _) (Mo.ite (Mo.bnd (Mo.refl _) fun _ _ => Mo.bnd (i1 _ _ _) fun _ _ => Mo.refl _) (Mo.refl _))))
    · rw [args, args]
      exact Mo.bnd (Mo.refl _) fun _ _ => Mo.ite (Mo.refl _) (Mo.bnd (i1 _ _ _) fun _ _ => Mo.bnd (i6 _ _) fun _ _ => Mo.refl _)
    · rw [more, more]
      exact Mo.ite (Mo.bnd (i1 _ _ _) fun _ _ => Mo.bnd (i6 _ _) fun _ _ => Mo.refl _) (Mo.refl _)
theorem mono2 : ∀ n, (∀ o ts, Mo (stm n o ts) (stm (n + 1) o ts)) ∧ (∀ o ts, Mo (stms n o ts) (stms (n + 1) o ts)) ∧ (∀ o ts, Mo (block n o ts) (block (n + 1) o ts))
  | 0 => ⟨fun _ _ => by rw [stm]; exact Mo.none _, fun _ _ => by rw [stms]; exact Mo.none _, fun _ _ => by rw [block]; exact Mo.none _⟩
  | n + 1 => by
    obtain ⟨i1, i2, i3⟩ := mono2 n
    obtain ⟨e1, _, _, _, e5, _⟩ := mono1 n
    refine ⟨fun o ts => ?_, fun o ts => ?_, fun o ts => ?_⟩
    · rw [stm, stm]
      exact Mo.ite (Mo.bnd (e1 _ _ _) fun _ _ => Mo.bnd (i3 _ _) fun _ _ => Mo.ite (Mo.bnd (i3 _ _) fun _ _ => Mo.refl _) (Mo.refl _))
        (Mo.ite (Mo.bnd (e1 _ _ _) fun _ _ => Mo.bnd (i3 _ _) fun _ _ => Mo.refl _)
        (Mo.ite (Mo.bnd (e1 _ _ _) fun _ _ => Mo.refl _) (Mo.ite (Mo.refl _) (Mo.bnd (Mo.refl _) fun _ _ => Mo.ite (Mo.bnd (e5 _ _) fun _ _ => Mo.refl _)
          (Mo.ite (Mo.bnd (Mo.refl _) fun _ _ => Mo.bnd (e1 _ _ _) fun _ _ => Mo.bnd (Mo.refl _) fun _ _ => Mo.bnd (Mo.refl _) fun _ _ => Mo.bnd (e1 _ _ _) fun _ _ => Mo.refl _)
            (Mo.bnd (Mo.refl _) fun _ _ => Mo.bnd (e1 _ _ _) fun _ _ => Mo.refl _))))))
    · rw [stms, stms]
      exact Mo.ite (Mo.refl _) (Mo.bnd (i1 _ _) fun _ _ => Mo.bnd (i2 _ _) fun _ _ => Mo.refl _)
    · rw [block, block]
      exact Mo.bnd (Mo.refl _) fun _ _ => Mo.bnd (i2 _ _) fun _ _ => Mo.refl _
theorem mono3 : ∀ n, (∀ ts, Mo (nmore n ts) (nmore (n + 1) ts))
  | 0 => fun _ => Mo.none _
  | n + 1 => fun ts => by
    rw [nmore, nmore]
    exact Mo.ite (Mo.bnd (Mo.refl _) fun _ _ => Mo.bnd (mono3 n _) fun _ _ => Mo.refl _) (Mo.refl _)
theorem mono_names (n : Nat) (ts : List Tk) : Mo (names n ts) (names (n + 1) ts) := Mo.bnd (Mo.refl _) fun _ _ => Mo.bnd (mono3 n _) fun _ _ => Mo.refl _
theorem mono_vars (n : Nat) (ts : List Tk) : Mo (vars n ts) (vars (n + 1) ts) := Mo.bnd (mono_names n _) fun _ _ => Mo.refl _
theorem mono_lcls : ∀ n, ∀ ts, Mo (lcls n ts) (lcls (n + 1) ts)
  | 0 => fun _ => Mo.none _
  | n + 1 => fun ts => by
    rw [lcls, lcls]
    exact Mo.ite (Mo.bnd (mono_vars n _) fun _ _ => Mo.bnd (mono_lcls n _) fun _ _ => Mo.refl _) (Mo.refl _)
theorem mono_func (n : Nat) (ts : List Tk) : Mo (func n ts) (func (n + 1) ts) :=
  Mo.bnd (Mo.refl _) fun _ _ => Mo.bnd (Mo.refl _) fun _ _ => Mo.bnd (Mo.ite (Mo.refl _) (mono_names n _)) fun _ _ => Mo.bnd (Mo.refl _) fun _ _ => Mo.bnd (Mo.refl _) fun _ _ => Mo.bnd (mono_lcls n _) fun _ _ => Mo.bnd ((mono2 n).2.1 _ _) fun _ _ => Mo.refl _
theorem mono_prog : ∀ n, ∀ p ts, Mo (prog n p ts) (prog (n + 1) p ts)
  | 0 => fun _ _ => Mo.none _
  | n + 1 => fun p ts => by
    rw [prog, prog]
    exact Mo.ite (Mo.refl _) (Mo.ite (Mo.bnd (mono_vars n _) fun _ _ => mono_prog n _ _) (Mo.ite (Mo.bnd (Mo.refl _) fun _ _ => mono_prog n _ _) (Mo.ite (Mo.bnd (mono_func n _) fun _ _ => mono_prog n _ _) (Mo.refl _))))
theorem Mo.upto {β : Type} {f : Nat → Option β} (h : ∀ n, Mo (f n) (f (n + 1))) {n m : Nat} (k : n ≤ m) : Mo (f n) (f m) := by
  induction k with
  | refl => exact Mo.refl _
  | step _ ih => exact ih.trans (h _)
theorem Mo.same {β : Type} {f : Nat → Option β} (h : ∀ n, Mo (f n) (f (n + 1))) {n m : Nat} {r r' : β} (h1 : f n = some r) (h2 : f m = some r') : r = r' := by
  have a := Mo.upto h (Nat.le_max_left n m) r h1
  have b := Mo.upto h (Nat.le_max_right n m) r' h2
  rw [a] at b
  injection b

/-! ### The answers as relations -/
def E (lvl o : Nat) (ts : List Tk) (r : Rs Exp) : Prop := ∃ n, expr n lvl o ts = some r
def L (lvl o : Nat) (x : Exp) (ts : List Tk) (r : Rs Exp) : Prop := ∃ n, loop n lvl o x ts = some r
def U (o : Nat) (ts : List Tk) (r : Rs Exp) : Prop := ∃ n, unary n o ts = some r
def A (o : Nat) (ts : List Tk) (r : Rs (List Exp)) : Prop := ∃ n, args n o ts = some r
def M (o : Nat) (ts : List Tk) (r : Rs (List Exp)) : Prop := ∃ n, more n o ts = some r
def S1 (o : Nat) (ts : List Tk) (r : Rs Sta) : Prop := ∃ n, stm n o ts = some r
def Ss (o : Nat) (ts : List Tk) (r : Rs (List Sta)) : Prop := ∃ n, stms n o ts = some r
def B (o : Nat) (ts : List Tk) (r : Rs (List Sta)) : Prop := ∃ n, block n o ts = some r
theorem mE (lvl o : Nat) (ts : List Tk) : ∀ n, Mo (expr n lvl o ts) (expr (n + 1) lvl o ts) := fun n => (mono1 n).1 lvl o ts
theorem mL (lvl o : Nat) (x : Exp) (ts : List Tk) : ∀ n, Mo (loop n lvl o x ts) (loop (n + 1) lvl o x ts) := fun n => (mono1 n).2.1 lvl o x ts
theorem mU (o : Nat) (ts : List Tk) : ∀ n, Mo (unary n o ts) (unary (n + 1) o ts) := fun n => (mono1 n).2.2.1 o ts
theorem mP (o : Nat) (ts : List Tk) : ∀ n, Mo (primary n o ts) (primary (n + 1) o ts) := fun n => (mono1 n).2.2.2.1 o ts
theorem mA (o : Nat) (ts : List Tk) : ∀ n, Mo (args n o ts) (args (n + 1) o ts) := fun n => (mono1 n).2.2.2.2.1 o ts
theorem mM (o : Nat) (ts : List Tk) : ∀ n, Mo (more n o ts) (more (n + 1) o ts) := fun n => (mono1 n).2.2.2.2.2 o ts
theorem mS (o : Nat) (ts : List Tk) : ∀ n, Mo (stm n o ts) (stm (n + 1) o ts) := fun n => (mono2 n).1 o ts
theorem mSs (o : Nat) (ts : List Tk) : ∀ n, Mo (stms n o ts) (stms (n + 1) o ts) := fun n => (mono2 n).2.1 o ts
theorem mB (o : Nat) (ts : List Tk) : ∀ n, Mo (block n o ts) (block (n + 1) o ts) := fun n => (mono2 n).2.2 o ts
/-- Two answers with fuel have a common fuel. -/
theorem two_fuel {β γ : Type} {f : Nat → Option β} {g : Nat → Option γ} (hf : ∀ n, Mo (f n) (f (n + 1))) (hg : ∀ n, Mo (g n) (g (n + 1))) {a : β} {b : γ} (h1 : ∃ n, f n = some a) (h2 : ∃ n, g n = some b) : ∃ n, f n = some a ∧ g n = some b := by
  obtain ⟨n, h1⟩ := h1
  obtain ⟨m, h2⟩ := h2
  exact ⟨max n m, Mo.upto hf (Nat.le_max_left n m) a h1, Mo.upto hg (Nat.le_max_right n m) b h2⟩
theorem E.climb {lvl o : Nat} {ts r : List Tk} {x : Exp} (hl : lvl ≤ 6) (h : E (lvl + 1) o ts (.ok x r)) {z : Rs Exp} (k : L lvl o x r z) : E lvl o ts z := by
  obtain ⟨n, h1, h2⟩ := two_fuel (mE _ _ _) (mL _ _ _ _) h k
  refine ⟨n + 1, ?_⟩
  rw [expr, if_neg (by omega), h1]
  exact h2
theorem L.stop {lvl o : Nat} {x : Exp} {ts : List Tk} (h : bop lvl ts = false) : L lvl o x ts (.ok x ts) := ⟨1, by rw [loop, h]; rfl⟩
theorem L.step {lvl o : Nat} {x y : Exp} {ts r : List Tk} (hl : lvl ≠ 3) (h : bop lvl ts = true) (h1 : E (lvl + 1) o ts.tail (.ok y r)) {z : Rs Exp} (k : L lvl o (.bin (tx ts) x y) r z) : L lvl o x ts z := by
  obtain ⟨n, h1, h2⟩ := two_fuel (mE _ _ _) (mL _ _ _ _) h1 k
  refine ⟨n + 1, ?_⟩
  rw [loop, h, if_pos rfl, h1]
  show (if lvl = 3 then _ else _) = _
  rw [if_neg hl]
  exact h2
theorem L.three {o : Nat} {x y : Exp} {ts r : List Tk} (h : bop 3 ts = true) (h1 : E 4 o ts.tail (.ok y r)) : L 3 o x ts (.ok (.bin (tx ts) x y) r) := by
  obtain ⟨n, h1⟩ := h1
  refine ⟨n + 1, ?_⟩
  rw [loop, h, if_pos rfl, h1]
  rfl
theorem E.unary {o : Nat} {ts : List Tk} {z : Rs Exp} (h : U o ts z) : E 7 o ts z := by
  obtain ⟨n, h⟩ := h
  exact ⟨n + 1, by rw [expr, if_pos rfl]; exact h⟩
theorem U.of {o : Nat} {ts : List Tk} {z : Rs Exp} (h : E 7 o ts z) : U o ts z := by
  obtain ⟨n, h⟩ := h
  cases n with
  | zero => rw [expr] at h; cases h
  | succ n => rw [expr, if_pos rfl] at h; exact ⟨n, h⟩
theorem U.prim {o : Nat} {ts : List Tk} {z : Rs Exp} (h1 : sg [45] ts = false) (h2 : sg [33] ts = false) (h : ∃ n, primary n o ts = some z) : U o ts z := by
  obtain ⟨n, h⟩ := h
  exact ⟨n + 1, by rw [unary.eq_2, h1, h2]; exact h⟩
theorem U.un {o : Nat} {ts r : List Tk} {x : Exp} (h1 : (sg [45] ts || sg [33] ts) = true) (ho : o ≠ 100) (h : U (o + 1) ts.tail (.ok x r)) : U o ts (.ok (.un (tx ts) x) r) := by
  obtain ⟨n, h⟩ := h
  exact ⟨n + 1, by rw [unary.eq_2, if_pos h1, if_neg ho, h]; rfl⟩
end Go.Proofs.YtpbcncfbfbghcaaGreatDoor.L20
namespace Go.Proofs.YtpbcncfbfbghcaaGreatDoor.L20
open Mem L19
set_option linter.unusedVariables false
set_option linter.unusedSimpArgs false

def Good (ts : List Tk) : Prop := ∀ t ∈ ts, Tk1 t.1 t.2
theorem Good.suf {r ts : List Tk} (h : Good ts) (k : r <:+ ts) : Good r := fun t ht => h t (k.subset ht)
theorem suf_tail (ts : List Tk) : ts.tail <:+ ts := List.tail_suffix ts
theorem suf_trans {a b c : List Tk} (h : a <:+ b) (k : b <:+ c) : a <:+ c := h.trans k
mutual
def Wf : Exp → Prop
  | .num n => n ≤ 4294967295
  | .var s => Tk1 2 s
  | .elem s i => Tk1 2 s ∧ Wf i
  | .call s l => Tk1 2 s ∧ Wfl l
  | .un op x => (op = [45] ∨ op = [33]) ∧ Wf x
  | .bin op x y => 1 ≤ lev op ∧ Wf x ∧ Wf y
def Wfl : List Exp → Prop
  | [] => True
  | x :: r => Wf x ∧ Wfl r
end
def dO (lv : Nat) (x : Exp) (d : Nat) : Nat := if str x < lv then d + 1 else d
mutual
def dep : Exp → Nat
  | .num _ => 0
  | .var _ => 0
  | .elem _ i => dep i + 1
  | .call _ l => depl l + 1
  | .un _ x => dO 7 x (dep x) + 1
  | .bin op x y => max (dO (lft op) x (dep x)) (dO (lev op + 1) y (dep y))
def depl : List Exp → Nat
  | [] => 0
  | x :: r => max (dep x) (depl r)
end
def ct (l : List It) : Nat := (tks l).length
theorem ct_app (a b : List It) : ct (a ++ b) = ct a + ct b := by unfold ct; rw [tks_app, List.length_append]
theorem ct_t (k : Nat) (T : Str) (r : List It) : ct (.t k T :: r) = ct r + 1 := by unfold ct; rw [tks, List.length_cons]
theorem ct_sp (r : List It) : ct (.sp :: r) = ct r := rfl
theorem ct_nl (r : List It) : ct (.nl :: r) = ct r := rfl
theorem ct_nil : ct [] = 0 := rfl
def cO (lv : Nat) (x : Exp) : Nat := ct (par lv x (fe x))
theorem cO_eq (lv : Nat) (x : Exp) : cO lv x = if str x < lv then ct (fe x) + 2 else ct (fe x) := by
  unfold cO par
  split
  · rw [ct_app, ct_t, ct_t, ct_nil]
  · rfl
theorem cO_mono {a b : Nat} (h : a ≤ b) (x : Exp) : cO a x ≤ cO b x := by
  rw [cO_eq, cO_eq]
  split <;> split <;> omega
theorem dO_mono {a b : Nat} (h : a ≤ b) (x : Exp) (d : Nat) : dO a x d ≤ dO b x d := by
  unfold dO
  split <;> split <;> omega
/-- How many tokens stand in a list of arguments behind its first. -/
def cm : List Exp → Nat
  | [] => 0
  | x :: r => ct (fe x) + 1 + cm r
theorem ct_sep : ∀ (x : Exp) (l : List Exp), ct (sep (fel (x :: l))) = ct (fe x) + cm l
  | x, [] => by rw [fel, fel, sep, cm]; rfl
  | x, y :: r => by
    have := ct_sep y r
    rw [fel, fel] at *
    rw [sep, ct_app, ct_app, this, ct_t, ct_sp, ct_nil, cm]
    omega
theorem Wfl.mem {l : List Exp} (h : Wfl l) : ∀ x ∈ l, Wf x := by
  induction l with
  | nil => intro x hx; cases hx
  | cons y r ih =>
    rw [Wfl] at h
    intro x hx
    rcases List.mem_cons.1 hx with rfl | hx
    · exact h.1
    · exact ih h.2 x hx
theorem str_range {x : Exp} (h : Wf x) : 1 ≤ str x ∧ str x ≤ 8 := by
  have hl : ∀ op, lev op ≤ 6 := fun op => by unfold lev; (repeat' split) <;> omega
  cases x with
  | bin op a b =>
    rw [Wf] at h
    have := hl op
    exact ⟨h.1, by show lev op ≤ 8; omega⟩
  | _ => simp [str]
theorem dO_one {x : Exp} (h : Wf x) (d : Nat) : dO 1 x d = d := by
  have := (str_range h).1
  unfold dO
  rw [if_neg (by omega)]
theorem cO_one {x : Exp} (h : Wf x) : cO 1 x = ct (fe x) := by
  have := (str_range h).1
  rw [cO_eq, if_neg (by omega)]

/-! ### Taking answers apart -/
theorem bnd_ok {α β : Type} {x : Option (Rs α)} {f : α → List Tk → Option (Rs β)} {b : β} {r : List Tk} (h : bnd x f = some (.ok b r)) : ∃ a ts, x = some (.ok a ts) ∧ f a ts = some (.ok b r) := by
  cases x with
  | none => cases h
  | some v =>
    cases v with
    | ok a ts => exact ⟨a, ts, rfl, h⟩
    | bad e ts => cases h
theorem some_ok {α : Type} {a b : α} {r r' : List Tk} (h : (some (.ok a r) : Option (Rs α)) = some (.ok b r')) : a = b ∧ r = r' := by
  injection h with h
  injection h with h1 h2
  exact ⟨h1, h2⟩
theorem sg_pos {s : Str} {ts : List Tk} (h : sg s ts = true) : ts.tail.length + 1 = ts.length := by
  cases ts with
  | nil => cases h
  | cons t r => rfl
theorem kd_pos {k : Nat} {ts : List Tk} (h : kd k ts = true) : ts.tail.length + 1 = ts.length := by
  cases ts with
  | nil => cases h
  | cons t r => rfl
theorem kd_tk {k : Nat} {ts : List Tk} (h : kd k ts = true) (hg : Good ts) : Tk1 k (tx ts) := by
  cases ts with
  | nil => cases h
  | cons t r =>
    have := hg t List.mem_cons_self
    have e : t.1 = k := by simpa [kd] using h
    rw [e] at this
    exact this
theorem want_ok {s : Str} {ts r : List Tk} {u : Unit} (h : some (want s ts) = some (.ok u r)) : sg s ts = true ∧ r = ts.tail := by
  injection h with h
  unfold want at h
  split at h
  · injection h with _ h; exact ⟨by assumption, h.symm⟩
  · cases h
theorem enter_ok {s : Str} {o : Nat} {ts r : List Tk} {u : Unit} (h : some (enter s o ts) = some (.ok u r)) : sg s ts = true ∧ o ≠ 100 ∧ r = ts.tail := by
  injection h with h
  unfold enter at h
  split at h
  · split at h
    · cases h
    · injection h with _ h; exact ⟨by assumption, by assumption, h.symm⟩
  · cases h
theorem name_ok {ts r : List Tk} {s : Str} (h : some (name ts) = some (.ok s r)) : kd 2 ts = true ∧ s = tx ts ∧ r = ts.tail := by
  injection h with h
  unfold name at h
  split at h
  · injection h with h1 h; exact ⟨by assumption, h1.symm, h.symm⟩
  · cases h
theorem number_ok {ts r : List Tk} {n : Nat} (h : some (number ts) = some (.ok n r)) : kd 1 ts = true ∧ n = nval (tx ts) ∧ r = ts.tail := by
  injection h with h
  unfold number at h
  split at h
  · injection h with h1 h; exact ⟨by assumption, h1.symm, h.symm⟩
  · cases h
theorem tk_num {T : Str} (h : Tk1 1 T) : nval T ≤ 4294967295 := by
  generalize hk : (1 : Nat) = k at h
  cases h with
  | num _ _ _ _ h4 => exact h4
  | wrd c r => unfold wkind at hk; split at hk <;> omega
  | one => omega
  | two => omega

/-! ### What was read -/
def Rd1 (lv o : Nat) (ts : List Tk) (x : Exp) (r : List Tk) : Prop := Wf x ∧ o + dO lv x (dep x) ≤ 100 ∧ cO lv x + r.length ≤ ts.length ∧ r <:+ ts
theorem Rd1.down {a b o : Nat} {ts r : List Tk} {x : Exp} (h : Rd1 b o ts x r) (k : a ≤ b) : Rd1 a o ts x r := by
  obtain ⟨h1, h2, h3, h4⟩ := h
  have := dO_mono k x (dep x)
  have := cO_mono k x
  exact ⟨h1, by omega, by omega, h4⟩
theorem read1 : ∀ n, (∀ lvl o ts x r, 1 ≤ lvl → lvl ≤ 7 → o ≤ 100 → Good ts → expr n lvl o ts = some (.ok x r) → Rd1 lvl o ts x r) ∧
    (∀ lvl o z ts x r, 1 ≤ lvl → lvl ≤ 6 → o ≤ 100 → Good ts → Wf z → o + dO (if lvl = 3 then 4 else lvl) z (dep z) ≤ 100 → loop n lvl o z ts = some (.ok x r) → Wf x ∧ o + dO lvl x (dep x) ≤ 100 ∧ cO lvl x + r.length ≤ cO (if lvl = 3 then 4 else lvl) z + ts.length ∧ r <:+ ts) ∧
    (∀ o ts x r, o ≤ 100 → Good ts → unary n o ts = some (.ok x r) → Rd1 7 o ts x r) ∧
    (∀ o ts x r, o ≤ 100 → Good ts → primary n o ts = some (.ok x r) → Rd1 8 o ts x r) ∧
    (∀ o ts l r, o ≤ 100 → Good ts → args n o ts = some (.ok l r) → Wfl l ∧ o + depl l + 1 ≤ 100 ∧ ct (sep (fel l)) + 2 + r.length ≤ ts.length ∧ r <:+ ts) ∧
    (∀ o ts l r, o ≤ 100 → Good ts → more n o ts = some (.ok l r) → Wfl l ∧ o + depl l ≤ 100 ∧ cm l + r.length ≤ ts.length ∧ r <:+ ts)
  | 0 => by
    refine ⟨?_, ?_, ?_, ?_, ?_, ?_⟩
    · intro lvl o ts x r _ _ _ _ h; rw [expr] at h; cases h
    · intro lvl o z ts x r _ _ _ _ _ _ h; rw [loop] at h; cases h
    · intro o ts x r _ _ h; rw [unary] at h; cases h
    · intro o ts x r _ _ h; rw [primary] at h; cases h
    · intro o ts x r _ _ h; rw [args] at h; cases h
    · intro o ts x r _ _ h; rw [more] at h; cases h
  | n + 1 => by
    obtain ⟨i1, i2, i3, i4, i5, i6⟩ := read1 n
    refine ⟨?_, ?_, ?_, ?_, ?_, ?_⟩
    · intro lvl o ts x r h1 h7 ho hg h
      rw [expr] at h
      split at h
      · rename_i e
        rw [e]
        exact i3 o ts x r ho hg h
      · rename_i e
        obtain ⟨z, ts', hz, hx⟩ := bnd_ok h
        obtain ⟨a1, a2, a3, a4⟩ := i1 (lvl + 1) o ts z ts' (by omega) (by omega) ho hg hz
        have hle : (if lvl = 3 then 4 else lvl) ≤ lvl + 1 := by split <;> omega
        have d1 := dO_mono hle z (dep z)
        have d2 := cO_mono hle z
        obtain ⟨b1, b2, b3, b4⟩ := i2 lvl o z ts' x r h1 (by omega) ho (hg.suf a4) a1 (by omega) hx
        exact ⟨b1, b2, by omega, b4.trans a4⟩
    · intro lvl o z ts x r h1 h6 ho hg hz hd h
      rw [loop] at h
      split at h
      · rename_i hb
        obtain ⟨y, ts', hy, hx⟩ := bnd_ok h
        have hb2 : kd 4 ts = true ∧ lev (tx ts) = lvl := by simpa [bop] using hb
        have hp := kd_pos hb2.1
        obtain ⟨a1, a2, a3, a4⟩ := i1 (lvl + 1) o ts.tail y ts' (by omega) (by omega) ho (hg.suf (suf_tail ts)) hy
        have hw : Wf (.bin (tx ts) z y) := by rw [Wf]; exact ⟨by omega, hz, a1⟩
        have hlf : lft (tx ts) = (if lvl = 3 then 4 else lvl) := by unfold lft; rw [hb2.2]
        have hdp : dep (.bin (tx ts) z y) = max (dO (if lvl = 3 then 4 else lvl) z (dep z)) (dO (lvl + 1) y (dep y)) := by rw [dep, hlf, hb2.2]
        have hfe : fe (.bin (tx ts) z y) = par (if lvl = 3 then 4 else lvl) z (fe z) ++ [.sp, .t 4 (tx ts), .sp] ++ par (lvl + 1) y (fe y) := by rw [fe, hlf, hb2.2]
        have hct : ct (fe (.bin (tx ts) z y)) = cO (if lvl = 3 then 4 else lvl) z + 1 + cO (lvl + 1) y := by rw [hfe, ct_app, ct_app, ct_sp, ct_t, ct_sp, ct_nil]; rfl
        have hst : str (.bin (tx ts) z y) = lvl := hb2.2
        have hO : ∀ d, dO lvl (.bin (tx ts) z y) d = d := fun d => by unfold dO; rw [hst, if_neg (by omega)]
        have hC : cO lvl (.bin (tx ts) z y) = ct (fe (.bin (tx ts) z y)) := by rw [cO_eq, hst, if_neg (by omega)]
        have hsuf : ts' <:+ ts := a4.trans (suf_tail ts)
        split at hx
        · rename_i e3
          obtain ⟨rfl, rfl⟩ := some_ok hx
          exact ⟨hw, by rw [hO, hdp]; omega, by rw [hC, hct]; omega, hsuf⟩
        · rename_i e3
          obtain ⟨b1, b2, b3, b4⟩ := i2 lvl o _ ts' x r h1 h6 ho (hg.suf hsuf) hw (by rw [if_neg e3, hO, hdp]; omega) hx
          refine ⟨b1, b2, ?_, b4.trans hsuf⟩
          rw [if_neg e3, hC, hct] at b3
          omega
      · obtain ⟨rfl, rfl⟩ := some_ok h
        have hle : lvl ≤ (if lvl = 3 then 4 else lvl) := by split <;> omega
        have d1 := dO_mono hle z (dep z)
        have d2 := cO_mono hle z
        exact ⟨hz, by omega, by omega, List.suffix_refl _⟩
    · intro o ts x r ho hg h
      rw [unary] at h
      split at h
      · rename_i hs
        split at h
        · cases h
        · rename_i h100
          obtain ⟨y, ts', hy, hx⟩ := bnd_ok h
          obtain ⟨rfl, rfl⟩ := some_ok hx
          obtain ⟨a1, a2, a3, a4⟩ := i3 (o + 1) ts.tail y ts' (by omega) (hg.suf (suf_tail ts)) hy
          have hop : (tx ts = [45] ∨ tx ts = [33]) ∧ ts.tail.length + 1 = ts.length := by
            cases ts with
            | nil => simp [sg] at hs
            | cons t q =>
              obtain ⟨k, T⟩ := t
              simp [sg] at hs
              exact ⟨by rcases hs with h | h; exact .inl h.2; exact .inr h.2, rfl⟩
          have hst : str (.un (tx ts) y) = 7 := rfl
          refine ⟨by rw [Wf]; exact ⟨hop.1, a1⟩, ?_, ?_, a4.trans (suf_tail ts)⟩
          · unfold dO; rw [hst, if_neg (by omega), dep]; omega
          · rw [cO_eq, hst, if_neg (by omega), fe, ct_t]
            unfold cO at a3
            omega
      · exact (i4 o ts x r ho hg h).down (by omega)
    · intro o ts x r ho hg h
      rw [primary] at h
      split at h
      · rename_i hk
        obtain ⟨rfl, rfl⟩ := some_ok h
        have hp := kd_pos hk
        refine ⟨by rw [Wf]; exact tk_num (kd_tk hk hg), ?_, ?_, suf_tail ts⟩
        · unfold dO; rw [if_neg (by simp [str]), dep]; omega
        · rw [cO_eq, if_neg (by simp [str]), fe, ct_t, ct_nil]; omega
      split at h
      · obtain ⟨_, ts1, he, h⟩ := bnd_ok h
        obtain ⟨e1, e2, rfl⟩ := enter_ok he
        obtain ⟨y, ts2, hy, h⟩ := bnd_ok h
        obtain ⟨_, ts3, hw, h⟩ := bnd_ok h
        obtain ⟨w1, rfl⟩ := want_ok hw
        obtain ⟨rfl, rfl⟩ := some_ok h
        obtain ⟨a1, a2, a3, a4⟩ := i1 1 (o + 1) ts.tail y ts2 (by omega) (by omega) (by omega) (hg.suf (suf_tail ts)) hy
        rw [dO_one a1] at a2
        rw [cO_one a1] at a3
        have p1 := sg_pos e1
        have p2 := sg_pos w1
        refine ⟨a1, ?_, ?_, ((suf_tail ts2).trans a4).trans (suf_tail ts)⟩
        · unfold dO; split <;> omega
        · rw [cO_eq]; split <;> omega
      · obtain ⟨s, ts1, hn, h⟩ := bnd_ok h
        obtain ⟨n1, rfl, rfl⟩ := name_ok hn
        have p1 := kd_pos n1
        have hT := kd_tk n1 hg
        have hg1 := hg.suf (suf_tail ts)
        split at h
        · obtain ⟨l, ts2, hl, h⟩ := bnd_ok h
          obtain ⟨rfl, rfl⟩ := some_ok h
          obtain ⟨a1, a2, a3, a4⟩ := i5 o ts.tail l ts2 ho hg1 hl
          refine ⟨by rw [Wf]; exact ⟨hT, a1⟩, ?_, ?_, a4.trans (suf_tail ts)⟩
          · unfold dO; rw [if_neg (by simp [str]), dep]; omega
          · rw [cO_eq, if_neg (by simp [str]), fe, ct_app, ct_app, ct_t, ct_t, ct_t, ct_nil]; omega
        · split at h
          · obtain ⟨_, ts2, he, h⟩ := bnd_ok h
            obtain ⟨e1, e2, rfl⟩ := enter_ok he
            obtain ⟨y, ts3, hy, h⟩ := bnd_ok h
            obtain ⟨_, ts4, hw, h⟩ := bnd_ok h
            obtain ⟨w1, rfl⟩ := want_ok hw
            obtain ⟨rfl, rfl⟩ := some_ok h
            obtain ⟨a1, a2, a3, a4⟩ := i1 1 (o + 1) ts.tail.tail y ts3 (by omega) (by omega) (by omega) (hg1.suf (suf_tail _)) hy
            rw [dO_one a1] at a2
            rw [cO_one a1] at a3
            have p2 := sg_pos e1
            have p3 := sg_pos w1
            refine ⟨by rw [Wf]; exact ⟨hT, a1⟩, ?_, ?_, (((suf_tail ts3).trans a4).trans (suf_tail _)).trans (suf_tail ts)⟩
            · unfold dO; rw [if_neg (by simp [str]), dep]; omega
            · rw [cO_eq, if_neg (by simp [str]), fe, ct_app, ct_app, ct_t, ct_t, ct_t, ct_nil]; omega
          · obtain ⟨rfl, rfl⟩ := some_ok h
            refine ⟨by rw [Wf]; exact hT, ?_, ?_, suf_tail ts⟩
            · unfold dO; rw [if_neg (by simp [str]), dep]; omega
            · rw [cO_eq, if_neg (by simp [str]), fe, ct_t, ct_nil]; omega
    · intro o ts l r ho hg h
      rw [args] at h
      obtain ⟨_, ts1, he, h⟩ := bnd_ok h
      obtain ⟨e1, e2, rfl⟩ := enter_ok he
      have p1 := sg_pos e1
      have hg1 := hg.suf (suf_tail ts)
      split at h
      · rename_i hc
        obtain ⟨rfl, rfl⟩ := some_ok h
        have p2 := sg_pos hc
        exact ⟨by rw [Wfl]; trivial, by rw [depl]; omega, by rw [fel, sep, ct_nil]; omega, (suf_tail _).trans (suf_tail ts)⟩
      · obtain ⟨y, ts2, hy, h⟩ := bnd_ok h
        obtain ⟨m, ts3, hm, h⟩ := bnd_ok h
        obtain ⟨_, ts4, hw, h⟩ := bnd_ok h
        obtain ⟨w1, rfl⟩ := want_ok hw
        obtain ⟨rfl, rfl⟩ := some_ok h
        obtain ⟨a1, a2, a3, a4⟩ := i1 1 (o + 1) ts.tail y ts2 (by omega) (by omega) (by omega) hg1 hy
        obtain ⟨b1, b2, b3, b4⟩ := i6 (o + 1) ts2 m ts3 (by omega) (hg1.suf a4) hm
        rw [dO_one a1] at a2
        rw [cO_one a1] at a3
        have p2 := sg_pos w1
        exact ⟨by rw [Wfl]; exact ⟨a1, b1⟩, by rw [depl]; omega, by rw [ct_sep]; omega, (((suf_tail _).trans b4).trans a4).trans (suf_tail ts)⟩
    · intro o ts l r ho hg h
      rw [more] at h
      split at h
      · rename_i hc
        have p1 := sg_pos hc
        have hg1 := hg.suf (suf_tail ts)
        obtain ⟨y, ts2, hy, h⟩ := bnd_ok h
        obtain ⟨m, ts3, hm, h⟩ := bnd_ok h
        obtain ⟨rfl, rfl⟩ := some_ok h
        obtain ⟨a1, a2, a3, a4⟩ := i1 1 o ts.tail y ts2 (by omega) (by omega) ho hg1 hy
        obtain ⟨b1, b2, b3, b4⟩ := i6 o ts2 m ts3 ho (hg1.suf a4) hm
        rw [dO_one a1] at a2
        rw [cO_one a1] at a3
        exact ⟨by rw [Wfl]; exact ⟨a1, b1⟩, by rw [depl]; omega, by rw [cm]; omega, (b4.trans a4).trans (suf_tail ts)⟩
      · obtain ⟨rfl, rfl⟩ := some_ok h
        exact ⟨by rw [Wfl]; trivial, by rw [depl]; omega, by rw [cm]; omega, List.suffix_refl _⟩
end Go.Proofs.YtpbcncfbfbghcaaGreatDoor.L20
namespace Go.Proofs.YtpbcncfbfbghcaaGreatDoor.L20
open Mem L19
set_option linter.unusedVariables false
set_option linter.unusedSimpArgs false

/-- What may follow an expression of a level. -/
def Fol (lvl : Nat) (r : List Tk) : Prop := (∀ l, lvl ≤ l → bop l r = false) ∧ sg [40] r = false ∧ sg [91] r = false
theorem Fol.up {a b : Nat} {r : List Tk} (h : Fol a r) (k : a ≤ b) : Fol b r := ⟨fun l hl => h.1 l (by omega), h.2⟩
theorem Fol.op {n : Nat} {op : Str} (hn : 1 ≤ lev op) (h : lev op < n) (R : List Tk) : Fol n ((4, op) :: R) := by
  refine ⟨fun l hl => ?_, ?_, ?_⟩
  · show (true && lev op == l) = false
    rw [Bool.true_and, beq_eq_false_iff_ne]; omega
  · show (true && op == [40]) = false
    rw [Bool.true_and, beq_eq_false_iff_ne]
    rintro rfl; simp [lev] at hn
  · show (true && op == [91]) = false
    rw [Bool.true_and, beq_eq_false_iff_ne]
    rintro rfl; simp [lev] at hn
/-- A sign that is no operator and opens nothing. -/
theorem Fol.sign {T : Str} (h1 : lev T = 0) (h2 : T ≠ [40]) (h3 : T ≠ [91]) {n : Nat} (hn : 1 ≤ n) (R : List Tk) : Fol n ((4, T) :: R) := by
  refine ⟨fun l hl => ?_, ?_, ?_⟩
  · show (true && lev T == l) = false
    rw [Bool.true_and, beq_eq_false_iff_ne]; omega
  · show (true && T == [40]) = false
    rw [Bool.true_and, beq_eq_false_iff_ne]; exact h2
  · show (true && T == [91]) = false
    rw [Bool.true_and, beq_eq_false_iff_ne]; exact h3
theorem E.down {o : Nat} {ts R : List Tk} {x : Exp} {a : Nat} : ∀ d, a + d ≤ 7 → E (a + d) o ts (.ok x R) → Fol a R → E a o ts (.ok x R)
  | 0, _, h, _ => h
  | d + 1, hd, h, hf => by
    have h1 : E (a + d) o ts (.ok x R) := E.climb (lvl := a + d) (by omega) h (L.stop (hf.1 _ (by omega)))
    exact E.down d (by omega) h1 hf
theorem E.to {o : Nat} {ts R : List Tk} {x : Exp} {a b : Nat} (hab : a ≤ b) (hb : b ≤ 7) (h : E b o ts (.ok x R)) (hf : Fol a R) : E a o ts (.ok x R) := by
  obtain ⟨d, rfl⟩ : ∃ d, b = a + d := ⟨b - a, by omega⟩
  exact E.down d hb h hf
def P (o : Nat) (ts : List Tk) (r : Rs Exp) : Prop := ∃ n, primary n o ts = some r
theorem bnd_o {α β : Type} (a : α) (ts : List Tk) (f : α → List Tk → Option (Rs β)) : bnd (some (.ok a ts)) f = f a ts := rfl
theorem sg_self (s : Str) (R : List Tk) : sg s ((4, s) :: R) = true := by simp [sg]
theorem enter_o {s : Str} {o : Nat} {R : List Tk} (ho : o ≠ 100) : enter s o ((4, s) :: R) = .ok () R := by
  unfold enter; rw [if_pos (sg_self s R), if_neg ho]; rfl
theorem want_o (s : Str) (R : List Tk) : want s ((4, s) :: R) = .ok () R := by
  unfold want; rw [if_pos (sg_self s R)]; rfl
theorem name_o (s : Str) (R : List Tk) : name ((2, s) :: R) = .ok s R := by simp [name, kd, tx]
theorem number_o (s : Str) (R : List Tk) : number ((1, s) :: R) = .ok (nval s) R := by simp [number, kd, tx]
theorem sg_name (s T : Str) (R : List Tk) : sg s ((2, T) :: R) = false := by simp [sg]
theorem sg_number (s T : Str) (R : List Tk) : sg s ((1, T) :: R) = false := by simp [sg]
theorem sg_ne {s T : Str} (h : T ≠ s) (k : Nat) (R : List Tk) : sg s ((k, T) :: R) = false := by simp [sg, h]
theorem kd_ne {j k : Nat} (h : j ≠ k) (T : Str) (R : List Tk) : kd k ((j, T) :: R) = false := by simp [kd, h]
theorem P.num {o n : Nat} {T : Str} {R : List Tk} (h : nval T = n) : P o ((1, T) :: R) (.ok (.num n) R) := ⟨1, by rw [primary, if_pos (by simp [kd])]; subst h; rfl⟩
theorem P.par {o : Nat} {ts R : List Tk} {x : Exp} (ho : o ≠ 100) (h : E 1 (o + 1) ts (.ok x ((4, [41]) :: R))) : P o ((4, [40]) :: ts) (.ok x R) := by
  obtain ⟨n, h⟩ := h
  refine ⟨n + 1, ?_⟩
  rw [primary, if_neg (by simp [kd]), if_pos (sg_self _ _), enter_o ho, bnd_o, h, bnd_o, want_o, bnd_o]
theorem P.var {o : Nat} {s : Str} {R : List Tk} (h1 : sg [40] R = false) (h2 : sg [91] R = false) : P o ((2, s) :: R) (.ok (.var s) R) := by
  refine ⟨1, ?_⟩
  rw [primary, if_neg (by simp [kd]), if_neg (by simp [sg]), name_o, bnd_o, h1, if_neg (by simp), h2, if_neg (by simp)]
theorem P.elem {o : Nat} {s : Str} {ts R : List Tk} {x : Exp} (ho : o ≠ 100) (h : E 1 (o + 1) ts (.ok x ((4, [93]) :: R))) : P o ((2, s) :: (4, [91]) :: ts) (.ok (.elem s x) R) := by
  obtain ⟨n, h⟩ := h
  refine ⟨n + 1, ?_⟩
  rw [primary, if_neg (by simp [kd]), if_neg (by simp [sg]), name_o, bnd_o, if_neg (by simp [sg]), if_pos (sg_self _ _), enter_o ho, bnd_o, h, bnd_o, want_o, bnd_o]
theorem P.call {o : Nat} {s : Str} {ts R : List Tk} {l : List Exp} (h : A o ((4, [40]) :: ts) (.ok l R)) : P o ((2, s) :: (4, [40]) :: ts) (.ok (.call s l) R) := by
  obtain ⟨n, h⟩ := h
  refine ⟨n + 1, ?_⟩
  rw [primary, if_neg (by simp [kd]), if_neg (by simp [sg]), name_o, bnd_o, if_pos (sg_self _ _), h, bnd_o]
theorem A.none {o : Nat} {R : List Tk} (ho : o ≠ 100) : A o ((4, [40]) :: (4, [41]) :: R) (.ok [] R) := by
  refine ⟨1, ?_⟩
  rw [args, enter_o ho, bnd_o, if_pos (sg_self _ _)]
  rfl
theorem A.some {o : Nat} {ts r R : List Tk} {x : Exp} {l : List Exp} (ho : o ≠ 100) (hs : sg [41] ts = false) (h1 : E 1 (o + 1) ts (.ok x r)) (h2 : M (o + 1) r (.ok l ((4, [41]) :: R))) : A o ((4, [40]) :: ts) (.ok (x :: l) R) := by
  obtain ⟨n, h1, h2⟩ := two_fuel (mE _ _ _) (mM _ _) h1 h2
  refine ⟨n + 1, ?_⟩
  rw [args, enter_o ho, bnd_o, hs, if_neg (by simp), h1, bnd_o, h2, bnd_o, want_o, bnd_o]
theorem M.nil {o : Nat} {R : List Tk} (h : sg [44] R = false) : M o R (.ok [] R) := ⟨1, by rw [more, h]; rfl⟩
theorem M.cons {o : Nat} {ts r R : List Tk} {x : Exp} {l : List Exp} (h1 : E 1 o ts (.ok x r)) (h2 : M o r (.ok l R)) : M o ((4, [44]) :: ts) (.ok (x :: l) R) := by
  obtain ⟨n, h1, h2⟩ := two_fuel (mE _ _ _) (mM _ _) h1 h2
  refine ⟨n + 1, ?_⟩
  rw [more, if_pos (sg_self _ _), List.tail_cons, h1, bnd_o, h2, bnd_o]
theorem U.p {o : Nat} {k : Nat} {T : Str} {ts : List Tk} {z : Rs Exp} (hk : k = 1 ∨ k = 2 ∨ T = [40]) (h : P o ((k, T) :: ts) z) : U o ((k, T) :: ts) z := by
  refine U.prim ?_ ?_ h
  · rcases hk with rfl | rfl | rfl <;> simp [sg]
  · rcases hk with rfl | rfl | rfl <;> simp [sg]

/-! ### The tokens of formatted expressions -/
abbrev tf (x : Exp) : List Tk := tks (fe x)
def T (lv : Nat) (x : Exp) : List Tk := tks (par lv x (fe x))
theorem T_eq (lv : Nat) (x : Exp) : T lv x = if str x < lv then (4, [40]) :: tf x ++ [(4, [41])] else tf x := by
  unfold T par
  split
  · rw [tks_app]; rfl
  · rfl
def tm : List Exp → List Tk
  | [] => []
  | x :: r => (4, [44]) :: tf x ++ tm r
theorem tks_sep : ∀ (x : Exp) (l : List Exp), tks (sep (fel (x :: l))) = tf x ++ tm l
  | x, [] => by rw [fel, fel, sep, tm, List.append_nil]
  | x, y :: r => by
    have := tks_sep y r
    rw [fel, fel] at *
    rw [sep, tks_app, tks_app, this, tm]
    simp [tks]
theorem tf_elem (s : Str) (i : Exp) : tf (.elem s i) = (2, s) :: (4, [91]) :: tf i ++ [(4, [93])] := by
  unfold tf; rw [fe, tks_app, tks_app]; rfl
theorem tf_call (s : Str) (l : List Exp) : tf (.call s l) = (2, s) :: (4, [40]) :: tks (sep (fel l)) ++ [(4, [41])] := by
  unfold tf; rw [fe, tks_app, tks_app]; rfl
theorem tf_un (op : Str) (x : Exp) : tf (.un op x) = (4, op) :: T 7 x := by
  unfold tf T; rw [fe]; rfl
theorem tf_bin (op : Str) (x y : Exp) : tf (.bin op x y) = T (lft op) x ++ (4, op) :: T (lev op + 1) y := by
  unfold tf T
  rw [fe, tks_app, tks_app, List.append_assoc]
  rfl
/-- An expression does not begin with a closing parenthesis. -/
theorem tf_head (x : Exp) : Wf x → ∀ R, sg [41] (tf x ++ R) = false ∧ tf x ≠ [] := by
  have hT : ∀ lv x, (∀ R, sg [41] (tf x ++ R) = false ∧ tf x ≠ []) → ∀ R, sg [41] (T lv x ++ R) = false ∧ T lv x ≠ [] := by
    intro lv x h R
    rw [T_eq]
    split
    · exact ⟨by simp [sg], by simp⟩
    · exact h R
  induction x using Exp.ind with
  | h1 n => intro _ R; unfold tf; rw [fe]; exact ⟨by simp [tks, sg], by simp [tks]⟩
  | h2 s => intro _ R; unfold tf; rw [fe]; exact ⟨by simp [tks, sg], by simp [tks]⟩
  | h3 s i ih => intro _ R; rw [tf_elem]; exact ⟨by simp [sg], by simp⟩
  | h4 s l ih => intro _ R; rw [tf_call]; exact ⟨by simp [sg], by simp⟩
  | h5 op x ih =>
    intro h R
    rw [Wf] at h
    rw [tf_un]
    refine ⟨?_, by simp⟩
    rcases h.1 with rfl | rfl <;> simp [sg]
  | h6 op x y ih1 ih2 =>
    intro h R
    rw [Wf] at h
    rw [tf_bin, List.append_assoc]
    exact ⟨(hT _ _ (ih1 h.2.1) _).1, fun e => (hT (lft op) x (ih1 h.2.1) []).2 (List.append_eq_nil_iff.1 e).1⟩

/-! ### The round trip of expressions -/
def RA (x : Exp) : Prop := ∀ lvl o R, 1 ≤ lvl → lvl ≤ 7 → o + dO lvl x (dep x) ≤ 100 → Fol lvl R → E lvl o (T lvl x ++ R) (.ok x R)
def RB (x : Exp) : Prop := ∀ lvl o R z, 1 ≤ lvl → lvl ≤ 6 → lvl ≠ 3 → o + dO lvl x (dep x) ≤ 100 → Fol (lvl + 1) R → L lvl o x R z → E lvl o (T lvl x ++ R) z
/-- What has to be shown of an expression: its own tokens at its own strength. -/
theorem ra_of {x : Exp} (hw : Wf x) (h : ∀ o R, o + dep x ≤ 100 → Fol (min (str x) 7) R → E (min (str x) 7) o (tf x ++ R) (.ok x R))
    (hB : str x ≤ 6 → str x ≠ 3 → ∀ o R z, o + dep x ≤ 100 → Fol (str x + 1) R → L (str x) o x R z → E (str x) o (tf x ++ R) z) : RA x ∧ RB x := by
  obtain ⟨s1, s8⟩ := str_range hw
  have hA : RA x := by
    intro lvl o R h1 h7 hd hf
    rw [T_eq]
    unfold dO at hd
    split
    · rename_i hs
      rw [if_pos hs] at hd
      have e : (4, [40]) :: tf x ++ [(4, [41])] ++ R = (4, [40]) :: (tf x ++ (4, [41]) :: R) := by simp
      have hin : E 1 (o + 1) (tf x ++ (4, [41]) :: R) (.ok x ((4, [41]) :: R)) :=
        E.to (b := min (str x) 7) (by omega) (by omega) (h (o + 1) _ (by omega) (Fol.sign (by decide) (by decide) (by decide) (by omega) R)) (Fol.sign (by decide) (by decide) (by decide) (by omega) R)
      rw [e]
      exact E.to h7 (Nat.le_refl _) (E.unary (U.p (.inr (.inr rfl)) (P.par (by omega) hin))) hf
    · rename_i hs
      rw [if_neg hs] at hd
      exact E.to (b := min (str x) 7) (by omega) (by omega) (h o R hd (hf.up (by omega))) hf
  refine ⟨hA, ?_⟩
  intro lvl o R z h1 h6 h3 hd hf hl
  by_cases hs : str x = lvl
  · subst hs
    have hO : dO (str x) x (dep x) = dep x := by unfold dO; rw [if_neg (by omega)]
    rw [hO] at hd
    rw [T_eq, if_neg (by omega)]
    exact hB h6 h3 o R z hd hf hl
  · have e : T lvl x = T (lvl + 1) x := by
      rw [T_eq, T_eq]
      by_cases h5 : str x < lvl
      · rw [if_pos h5, if_pos (by omega)]
      · rw [if_neg h5, if_neg (by omega)]
    have eO : dO lvl x (dep x) = dO (lvl + 1) x (dep x) := by
      unfold dO
      by_cases h5 : str x < lvl
      · rw [if_pos h5, if_pos (by omega)]
      · rw [if_neg h5, if_neg (by omega)]
    rw [e]
    exact E.climb h6 (hA (lvl + 1) o R (by omega) (by omega) (by rw [← eO]; exact hd) hf) hl
theorem rm {o : Nat} {R : List Tk} : ∀ l : List Exp, Wfl l → (∀ x ∈ l, RA x) → o + depl l ≤ 100 → M o (tm l ++ (4, [41]) :: R) (.ok l ((4, [41]) :: R)) ∧ ∃ (T : Str) (q : List Tk), tm l ++ (4, [41]) :: R = (4, T) :: q ∧ lev T = 0 ∧ T ≠ [40] ∧ T ≠ [91]
  | [], _, _, _ => ⟨M.nil (sg_ne (by decide) _ _), [41], R, rfl, by decide, by decide, by decide⟩
  | x :: l, hw, hr, hd => by
    rw [Wfl] at hw
    rw [depl] at hd
    obtain ⟨h1, T, q, e, t1, t2, t3⟩ := rm (o := o) (R := R) l hw.2 (fun y hy => hr y (List.mem_cons_of_mem _ hy)) (by omega)
    have hf : Fol 1 (tm l ++ (4, [41]) :: R) := by rw [e]; exact Fol.sign t1 t2 t3 (Nat.le_refl _) q
    have hx := hr x List.mem_cons_self 1 o _ (Nat.le_refl _) (by omega) (by rw [dO_one hw.1]; omega) hf
    rw [T_eq, if_neg (by have := (str_range hw.1).1; omega)] at hx
    refine ⟨?_, [44], _, rfl, by decide, by decide, by decide⟩
    rw [tm, List.cons_append, List.cons_append, List.append_assoc]
    exact M.cons hx h1
theorem round_exp (x : Exp) : Wf x → RA x ∧ RB x := by
  induction x using Exp.ind with
  | h1 n =>
    intro hw
    refine ra_of hw (fun o R hd hf => ?_) (fun h => absurd h (by simp [str]))
    have e : tf (.num n) = [(1, dec n)] := by unfold tf; rw [fe]; rfl
    rw [e]
    exact E.unary (U.p (.inl rfl) (P.num (nval_dec n)))
  | h2 s =>
    intro hw
    refine ra_of hw (fun o R hd hf => ?_) (fun h => absurd h (by simp [str]))
    have e : tf (.var s) = [(2, s)] := by unfold tf; rw [fe]; rfl
    rw [e]
    exact E.unary (U.p (.inr (.inl rfl)) (P.var hf.2.1 hf.2.2))
  | h3 s i ih =>
    intro hw
    have hw' := hw
    rw [Wf] at hw'
    refine ra_of hw (fun o R hd hf => ?_) (fun h => absurd h (by simp [str]))
    rw [dep] at hd
    have hi := (ih hw'.2).1 1 (o + 1) ((4, [93]) :: R) (Nat.le_refl _) (by omega) (by rw [dO_one hw'.2]; omega) (Fol.sign (by decide) (by decide) (by decide) (by omega) R)
    rw [T_eq, if_neg (by have := (str_range hw'.2).1; omega)] at hi
    have e : tf (.elem s i) ++ R = (2, s) :: (4, [91]) :: (tf i ++ (4, [93]) :: R) := by rw [tf_elem]; simp
    rw [e]
    exact E.unary (U.p (.inr (.inl rfl)) (P.elem (by omega) hi))
  | h4 s l ih =>
    intro hw
    have hw' := hw
    rw [Wf] at hw'
    refine ra_of hw (fun o R hd hf => ?_) (fun h => absurd h (by simp [str]))
    rw [dep] at hd
    have hr : ∀ x ∈ l, RA x := fun x hx => (ih x hx (hw'.2.mem x hx)).1
    cases l with
    | nil =>
      have e : tf (.call s []) ++ R = (2, s) :: (4, [40]) :: (4, [41]) :: R := by rw [tf_call, fel, sep]; simp [tks]
      rw [e]
      exact E.unary (U.p (.inr (.inl rfl)) (P.call (A.none (by omega))))
    | cons x m =>
      have hwl := hw'.2
      rw [Wfl] at hwl
      rw [depl] at hd
      obtain ⟨h1, T', q, e', t1, t2, t3⟩ := rm (o := o + 1) (R := R) m hwl.2 (fun y hy => hr y (List.mem_cons_of_mem _ hy)) (by omega)
      have hf1 : Fol 1 (tm m ++ (4, [41]) :: R) := by rw [e']; exact Fol.sign t1 t2 t3 (Nat.le_refl _) q
      have hx := hr x List.mem_cons_self 1 (o + 1) _ (Nat.le_refl _) (by omega) (by rw [dO_one hwl.1]; omega) hf1
      rw [T_eq, if_neg (by have := (str_range hwl.1).1; omega)] at hx
      have e : tf (.call s (x :: m)) ++ R = (2, s) :: (4, [40]) :: (tf x ++ (tm m ++ (4, [41]) :: R)) := by rw [tf_call, tks_sep]; simp
      rw [e]
      exact E.unary (U.p (.inr (.inl rfl)) (P.call (A.some (by omega) (tf_head x hwl.1 _).1 hx h1)))
  | h5 op x ih =>
    intro hw
    have hw' := hw
    rw [Wf] at hw'
    refine ra_of hw (fun o R hd hf => ?_) (fun h => absurd h (by simp [str]))
    rw [dep] at hd
    have hx := (ih hw'.2).1 7 (o + 1) R (by omega) (Nat.le_refl _) (by omega) (hf.up (by simp [str]))
    rw [tf_un]
    have hs : (sg [45] ((4, op) :: (T 7 x ++ R)) || sg [33] ((4, op) :: (T 7 x ++ R))) = true := by rcases hw'.1 with rfl | rfl <;> simp [sg]
    exact E.unary (U.un (x := x) (ts := (4, op) :: (T 7 x ++ R)) hs (by omega) (U.of hx))
  | h6 op x y ih1 ih2 =>
    intro hw
    have hw' := hw
    rw [Wf] at hw'
    obtain ⟨w1, w2, w3⟩ := hw'
    have hl : lev op ≤ 6 := by unfold lev; (repeat' split) <;> omega
    have hst : str (.bin op x y) = lev op := rfl
    have main : ∀ o R z, lev op ≠ 3 → o + dep (.bin op x y) ≤ 100 → Fol (lev op + 1) R → L (lev op) o (.bin op x y) R z → E (lev op) o (tf (.bin op x y) ++ R) z := by
      intro o R z h3 hd hf hz
      rw [dep] at hd
      have hlf : lft op = lev op := by unfold lft; rw [if_neg h3]
      rw [hlf] at hd
      rw [tf_bin, hlf, List.append_assoc, List.cons_append]
      have hy := (ih2 w3).1 (lev op + 1) o R (by omega) (by omega) (by omega) hf
      exact (ih1 w2).2 (lev op) o _ z w1 hl h3 (by omega) (Fol.op w1 (Nat.lt_succ_self _) _)
        (L.step h3 (by show (true && lev op == lev op) = true; simp) hy hz)
    refine ra_of hw (fun o R hd hf => ?_) (fun h6 h3 o R z hd hf hz => main o R z h3 hd hf hz)
    rw [hst] at hf ⊢
    rw [show min (lev op) 7 = lev op by omega] at hf ⊢
    by_cases h3 : lev op = 3
    · rw [dep] at hd
      have hlf : lft op = 4 := by unfold lft; rw [if_pos h3]
      rw [hlf, h3, show 3 + 1 = 4 from rfl] at hd
      rw [h3] at hf ⊢
      rw [tf_bin, hlf, h3, List.append_assoc, List.cons_append]
      have hy := (ih2 w3).1 4 o R (by omega) (by omega) (by omega) (hf.up (by omega))
      have hx := (ih1 w2).1 4 o ((4, op) :: (T 4 y ++ R)) (by omega) (by omega) (by omega) (Fol.op w1 (by omega) _)
      exact E.climb (by omega) hx (L.three (ts := (4, op) :: (T 4 y ++ R)) (by show (true && lev op == 3) = true; rw [h3]; rfl) hy)
    · exact main o R _ h3 hd (hf.up (by omega)) (L.stop (hf.1 _ (Nat.le_refl _)))
end Go.Proofs.YtpbcncfbfbghcaaGreatDoor.L20
namespace Go.Proofs.YtpbcncfbfbghcaaGreatDoor.L20
open Mem L19
set_option linter.unusedVariables false
set_option linter.unusedSimpArgs false

mutual
def Wfs : Sta → Prop
  | .asg s x => Tk1 2 s ∧ Wf x
  | .sto s i x => Tk1 2 s ∧ Wf i ∧ Wf x
  | .ifs x a b => Wf x ∧ Wfsl a ∧ Wfsl b
  | .whl x a => Wf x ∧ Wfsl a
  | .ret x => Wf x
  | .cal s l => Wf (.call s l)
  | .hlt => True
def Wfsl : List Sta → Prop
  | [] => True
  | s :: r => Wfs s ∧ Wfsl r
end
mutual
def ds : Sta → Nat
  | .asg _ x => dep x
  | .sto _ i x => max (dep i + 1) (dep x)
  | .ifs x a b => max (dep x) (max (dsl a + 1) (if b.isEmpty then 0 else dsl b + 1))
  | .whl x a => max (dep x) (dsl a + 1)
  | .ret x => dep x
  | .cal _ l => depl l + 1
  | .hlt => 0
def dsl : List Sta → Nat
  | [] => 0
  | s :: r => max (ds s) (dsl r)
end
theorem ct_ind (d : Nat) : ct (ind d) = 0 := by unfold ct; rw [tks_ind]; rfl
/-- Tokens of formatted statements, whatever the indentation. -/
theorem tks_fs (s : Sta) : ∀ d, tks (fs d s) = tks (fs 0 s) := by
  have hl : ∀ l : List Sta, (∀ s ∈ l, ∀ d, tks (fs d s) = tks (fs 0 s)) → ∀ d, tks (fsl d l) = tks (fsl 0 l) := by
    intro l
    induction l with
    | nil => intro _ d; rw [fsl, fsl]
    | cons s r ih =>
      intro h d
      rw [fsl, fsl, tks_app, tks_app, h s List.mem_cons_self, ih (fun t ht => h t (List.mem_cons_of_mem _ ht))]
  induction s using Sta.ind with
  | h1 s x => intro d; rw [fs, fs]; simp only [tks_app, tks_ind]
  | h2 s i x => intro d; rw [fs, fs]; simp only [tks_app, tks_ind]
  | h3 x a b iha ihb =>
    intro d
    rw [fs, fs]
    have e1 : tks (fsl (d + 1) a) = tks (fsl (0 + 1) a) := by rw [hl a iha (d + 1), hl a iha (0 + 1)]
    have e2 : tks (fsl (d + 1) b) = tks (fsl (0 + 1) b) := by rw [hl b ihb (d + 1), hl b ihb (0 + 1)]
    cases b with
    | nil => simp only [tks_app, tks_ind, e1, List.isEmpty_nil, if_true]
    | cons s r => simp only [tks_app, tks_ind, e1, List.isEmpty_cons, Bool.false_eq_true, if_false, e2]
  | h4 x a iha =>
    intro d
    rw [fs, fs]
    have e1 : tks (fsl (d + 1) a) = tks (fsl (0 + 1) a) := by rw [hl a iha (d + 1), hl a iha (0 + 1)]
    simp only [tks_app, tks_ind, e1]
  | h5 x => intro d; rw [fs, fs]; simp only [tks_app, tks_ind]
  | h6 s l => intro d; rw [fs, fs]; simp only [tks_app, tks_ind]
  | h7 => intro d; rw [fs, fs]; simp only [tks_app, tks_ind]
abbrev ts1 (s : Sta) : List Tk := tks (fs 0 s)
abbrev tsl (l : List Sta) : List Tk := tks (fsl 0 l)
theorem tks_fsl : ∀ (l : List Sta) d, tks (fsl d l) = tsl l
  | [], d => by unfold tsl; rw [fsl, fsl]
  | s :: r, d => by unfold tsl; rw [fsl, fsl, tks_app, tks_app, tks_fs, tks_fsl r d]
theorem ts_asg (s : Str) (x : Exp) : ts1 (.asg s x) = (2, s) :: (4, [61]) :: tf x ++ [(4, [59])] := by
  unfold ts1; rw [fs, tks_app, tks_app, tks_app, tks_ind]; rfl
theorem ts_sto (s : Str) (i x : Exp) : ts1 (.sto s i x) = (2, s) :: (4, [91]) :: tf i ++ (4, [93]) :: (4, [61]) :: tf x ++ [(4, [59])] := by
  unfold ts1; rw [fs]; simp only [tks_app, tks_ind]; simp [tks, tf]
theorem ts_ret (x : Exp) : ts1 (.ret x) = (3, kReturn) :: tf x ++ [(4, [59])] := by
  unfold ts1; rw [fs]; simp only [tks_app, tks_ind]; simp [tks, tf]
theorem ts_cal (s : Str) (l : List Exp) : ts1 (.cal s l) = tf (.call s l) ++ [(4, [59])] := by
  unfold ts1; rw [fs]; simp only [tks_app, tks_ind]; simp [tks, tf]
theorem ts_hlt : ts1 .hlt = [(3, kHalt), (4, [59])] := by
  unfold ts1; rw [fs]; rfl
theorem ts_whl (x : Exp) (a : List Sta) : ts1 (.whl x a) = (3, kWhile) :: tf x ++ (4, [123]) :: tsl a ++ [(4, [125])] := by
  unfold ts1; rw [fs]; simp only [tks_app, tks_ind, tks_fsl]; simp [tks, tf]
theorem ts_ifs (x : Exp) (a b : List Sta) : ts1 (.ifs x a b) = (3, kIf) :: tf x ++ (4, [123]) :: tsl a ++ (4, [125]) :: (if b.isEmpty then [] else (3, kElse) :: (4, [123]) :: tsl b ++ [(4, [125])]) := by
  unfold ts1; rw [fs]
  cases b with
  | nil => simp only [tks_app, tks_ind, tks_fsl, List.isEmpty_nil, if_true]; simp [tks, tf]
  | cons s r => simp only [tks_app, tks_ind, tks_fsl, List.isEmpty_cons, Bool.false_eq_true, if_false]; simp [tks, tf]
theorem tsl_cons (s : Sta) (r : List Sta) : tsl (s :: r) = ts1 s ++ tsl r := by unfold tsl ts1; rw [fsl, tks_app]
theorem tf_len (x : Exp) : (tf x).length = ct (fe x) := rfl
theorem Wfsl.mem {l : List Sta} (h : Wfsl l) : ∀ x ∈ l, Wfs x := by
  induction l with
  | nil => intro x hx; cases hx
  | cons y r ih =>
    rw [Wfsl] at h
    intro x hx
    rcases List.mem_cons.1 hx with rfl | hx
    · exact h.1
    · exact ih h.2 x hx
theorem ct_call (s : Str) (l : List Exp) : (tf (.call s l)).length = ct (sep (fel l)) + 3 := by
  rw [tf_call]; simp [ct]
theorem readE {n o : Nat} {ts r : List Tk} {x : Exp} (ho : o ≤ 100) (hg : Good ts) (h : expr n 1 o ts = some (.ok x r)) : Wf x ∧ o + dep x ≤ 100 ∧ (tf x).length + r.length ≤ ts.length ∧ r <:+ ts := by
  obtain ⟨a1, a2, a3, a4⟩ := (read1 n).1 1 o ts x r (Nat.le_refl _) (by omega) ho hg h
  rw [dO_one a1] at a2
  rw [cO_one a1] at a3
  exact ⟨a1, a2, a3, a4⟩
theorem read2 : ∀ n, (∀ o ts s r, o ≤ 100 → Good ts → stm n o ts = some (.ok s r) → Wfs s ∧ o + ds s ≤ 100 ∧ (ts1 s).length + r.length ≤ ts.length ∧ r <:+ ts) ∧
    (∀ o ts l r, o ≤ 100 → Good ts → stms n o ts = some (.ok l r) → Wfsl l ∧ o + dsl l ≤ 100 ∧ (tsl l).length + r.length ≤ ts.length ∧ r <:+ ts) ∧
    (∀ o ts l r, o ≤ 100 → Good ts → block n o ts = some (.ok l r) → Wfsl l ∧ o + dsl l + 1 ≤ 100 ∧ (tsl l).length + 2 + r.length ≤ ts.length ∧ r <:+ ts)
  | 0 => by
    refine ⟨?_, ?_, ?_⟩
    · intro o ts s r _ _ h; rw [stm] at h; cases h
    · intro o ts s r _ _ h; rw [stms] at h; cases h
    · intro o ts s r _ _ h; rw [block] at h; cases h
  | n + 1 => by
    obtain ⟨i1, i2, i3⟩ := read2 n
    refine ⟨?_, ?_, ?_⟩
    · intro o ts s r ho hg h
      rw [stm] at h
      have hg1 := hg.suf (suf_tail ts)
      split at h
      · rename_i hs
        have p0 := sg_pos hs
        obtain ⟨x, t1, hx, h⟩ := bnd_ok h
        obtain ⟨a1, a2, a3, a4⟩ := readE ho hg1 hx
        obtain ⟨a, t2, ha, h⟩ := bnd_ok h
        obtain ⟨b1, b2, b3, b4⟩ := i3 o t1 a t2 ho (hg1.suf a4) ha
        split at h
        · rename_i he
          have p1 := sg_pos he
          obtain ⟨b, t3, hb, h⟩ := bnd_ok h
          obtain ⟨rfl, rfl⟩ := some_ok h
          obtain ⟨c1, c2, c3, c4⟩ := i3 o t2.tail b t3 ho (((hg1.suf a4).suf b4).suf (suf_tail _)) hb
          refine ⟨by rw [Wfs]; exact ⟨a1, b1, c1⟩, ?_, ?_, (((c4.trans (suf_tail _)).trans b4).trans a4).trans (suf_tail ts)⟩
          · rw [ds]; split <;> omega
          · rw [ts_ifs]
            split <;> simp only [List.length_cons, List.length_append, List.length_nil] <;> omega
        · obtain ⟨rfl, rfl⟩ := some_ok h
          refine ⟨by rw [Wfs]; exact ⟨a1, b1, by rw [Wfsl]; trivial⟩, ?_, ?_, (b4.trans a4).trans (suf_tail ts)⟩
          · rw [ds]; simp; omega
          · rw [ts_ifs]; simp only [List.isEmpty_nil, if_true, List.length_cons, List.length_append, List.length_nil]; omega
      split at h
      · rename_i hs
        have p0 := sg_pos hs
        obtain ⟨x, t1, hx, h⟩ := bnd_ok h
        obtain ⟨a1, a2, a3, a4⟩ := readE ho hg1 hx
        obtain ⟨a, t2, ha, h⟩ := bnd_ok h
        obtain ⟨b1, b2, b3, b4⟩ := i3 o t1 a t2 ho (hg1.suf a4) ha
        obtain ⟨rfl, rfl⟩ := some_ok h
        refine ⟨by rw [Wfs]; exact ⟨a1, b1⟩, ?_, ?_, (b4.trans a4).trans (suf_tail ts)⟩
        · rw [ds]; omega
        · rw [ts_whl]; simp only [List.length_cons, List.length_append, List.length_nil]; omega
      split at h
      · rename_i hs
        have p0 := sg_pos hs
        obtain ⟨x, t1, hx, h⟩ := bnd_ok h
        obtain ⟨a1, a2, a3, a4⟩ := readE ho hg1 hx
        obtain ⟨_, t2, hw, h⟩ := bnd_ok h
        obtain ⟨w1, rfl⟩ := want_ok hw
        have p1 := sg_pos w1
        obtain ⟨rfl, rfl⟩ := some_ok h
        refine ⟨by rw [Wfs]; exact a1, by rw [ds]; exact a2, ?_, ((suf_tail _).trans a4).trans (suf_tail ts)⟩
        rw [ts_ret]; simp only [List.length_cons, List.length_append, List.length_nil]; omega
      split at h
      · rename_i hs
        have p0 := sg_pos hs
        obtain ⟨_, t2, hw, h⟩ := bnd_ok h
        obtain ⟨w1, rfl⟩ := want_ok hw
        have p1 := sg_pos w1
        obtain ⟨rfl, rfl⟩ := some_ok h
        refine ⟨by rw [Wfs]; trivial, by rw [ds]; exact ho, ?_, (suf_tail _).trans (suf_tail ts)⟩
        rw [ts_hlt]; simp only [List.length_cons, List.length_nil]; omega
      obtain ⟨s', t1, hn, h⟩ := bnd_ok h
      obtain ⟨n1, rfl, rfl⟩ := name_ok hn
      have p0 := kd_pos n1
      have hT := kd_tk n1 hg
      split at h
      · obtain ⟨l, t2, hl, h⟩ := bnd_ok h
        obtain ⟨_, t3, hw, h⟩ := bnd_ok h
        obtain ⟨w1, rfl⟩ := want_ok hw
        have p1 := sg_pos w1
        obtain ⟨rfl, rfl⟩ := some_ok h
        obtain ⟨a1, a2, a3, a4⟩ := (read1 n).2.2.2.2.1 o ts.tail l t2 ho hg1 hl
        refine ⟨by rw [Wfs, Wf]; exact ⟨hT, a1⟩, by rw [ds]; omega, ?_, ((suf_tail _).trans a4).trans (suf_tail ts)⟩
        rw [ts_cal, List.length_append, ct_call]; simp only [List.length_cons, List.length_nil]; omega
      split at h
      · obtain ⟨_, t2, he, h⟩ := bnd_ok h
        obtain ⟨e1, e2, rfl⟩ := enter_ok he
        have p1 := sg_pos e1
        obtain ⟨i, t3, hi, h⟩ := bnd_ok h
        have hg2 := hg1.suf (suf_tail ts.tail)
        obtain ⟨a1, a2, a3, a4⟩ := readE (by omega) hg2 hi
        obtain ⟨_, t4, hw, h⟩ := bnd_ok h
        obtain ⟨w1, rfl⟩ := want_ok hw
        obtain ⟨_, t5, hw2, h⟩ := bnd_ok h
        obtain ⟨w2, rfl⟩ := want_ok hw2
        obtain ⟨x, t6, hx, h⟩ := bnd_ok h
        have hg3 := ((hg2.suf a4).suf (suf_tail _)).suf (suf_tail _)
        obtain ⟨b1, b2, b3, b4⟩ := readE ho hg3 hx
        obtain ⟨_, t7, hw3, h⟩ := bnd_ok h
        obtain ⟨w3, rfl⟩ := want_ok hw3
        obtain ⟨rfl, rfl⟩ := some_ok h
        have p2 := sg_pos w1
        have p3 := sg_pos w2
        have p4 := sg_pos w3
        refine ⟨by rw [Wfs]; exact ⟨hT, a1, b1⟩, by rw [ds]; omega, ?_, ((((((suf_tail _).trans b4).trans (suf_tail _)).trans (suf_tail _)).trans a4).trans (suf_tail _)).trans (suf_tail ts)⟩
        rw [ts_sto]; simp only [List.length_cons, List.length_append, List.length_nil]; omega
      · obtain ⟨_, t5, hw2, h⟩ := bnd_ok h
        obtain ⟨w2, rfl⟩ := want_ok hw2
        obtain ⟨x, t6, hx, h⟩ := bnd_ok h
        obtain ⟨b1, b2, b3, b4⟩ := readE ho (hg1.suf (suf_tail _)) hx
        obtain ⟨_, t7, hw3, h⟩ := bnd_ok h
        obtain ⟨w3, rfl⟩ := want_ok hw3
        obtain ⟨rfl, rfl⟩ := some_ok h
        have p3 := sg_pos w2
        have p4 := sg_pos w3
        refine ⟨by rw [Wfs]; exact ⟨hT, b1⟩, by rw [ds]; omega, ?_, (((suf_tail _).trans b4).trans (suf_tail _)).trans (suf_tail ts)⟩
        rw [ts_asg]; simp only [List.length_cons, List.length_append, List.length_nil]; omega
    · intro o ts l r ho hg h
      rw [stms] at h
      split at h
      · obtain ⟨rfl, rfl⟩ := some_ok h
        exact ⟨by rw [Wfsl]; trivial, by rw [dsl]; omega, by unfold tsl; rw [fsl]; simp [tks], List.suffix_refl _⟩
      · obtain ⟨s, t1, hs, h⟩ := bnd_ok h
        obtain ⟨m, t2, hm, h⟩ := bnd_ok h
        obtain ⟨rfl, rfl⟩ := some_ok h
        obtain ⟨a1, a2, a3, a4⟩ := i1 o ts s t1 ho hg hs
        obtain ⟨b1, b2, b3, b4⟩ := i2 o t1 m t2 ho (hg.suf a4) hm
        exact ⟨by rw [Wfsl]; exact ⟨a1, b1⟩, by rw [dsl]; omega, by rw [tsl_cons, List.length_append]; omega, b4.trans a4⟩
    · intro o ts l r ho hg h
      rw [block] at h
      obtain ⟨_, t1, he, h⟩ := bnd_ok h
      obtain ⟨e1, e2, rfl⟩ := enter_ok he
      have p0 := sg_pos e1
      obtain ⟨m, t2, hm, h⟩ := bnd_ok h
      obtain ⟨_, t3, hw, h⟩ := bnd_ok h
      obtain ⟨w1, rfl⟩ := want_ok hw
      have p1 := sg_pos w1
      obtain ⟨rfl, rfl⟩ := some_ok h
      obtain ⟨b1, b2, b3, b4⟩ := i2 (o + 1) ts.tail m t2 (by omega) (hg.suf (suf_tail ts)) hm
      exact ⟨b1, by omega, by omega, ((suf_tail _).trans b4).trans (suf_tail ts)⟩
end Go.Proofs.YtpbcncfbfbghcaaGreatDoor.L20
namespace Go.Proofs.YtpbcncfbfbghcaaGreatDoor.L20
open Mem L19
set_option linter.unusedVariables false
set_option linter.unusedSimpArgs false

theorem reE {o : Nat} {x : Exp} {R : List Tk} (hw : Wf x) (hd : o + dep x ≤ 100) (hf : Fol 1 R) : E 1 o (tf x ++ R) (.ok x R) := by
  have := (round_exp x hw).1 1 o R (Nat.le_refl _) (by omega) (by rw [dO_one hw]; exact hd) hf
  rwa [T_eq, if_neg (by have := (str_range hw).1; omega)] at this
theorem reA {o : Nat} {s : Str} {l : List Exp} {R : List Tk} (hw : Wf (.call s l)) (hd : o + depl l + 1 ≤ 100) : A o ((4, [40]) :: tks (sep (fel l)) ++ [(4, [41])] ++ R) (.ok l R) := by
  rw [Wf] at hw
  cases l with
  | nil => rw [fel, sep]; exact A.none (by omega)
  | cons x m =>
    have hwl := hw.2
    rw [Wfl] at hwl
    rw [depl] at hd
    have hr : ∀ y ∈ m, RA y := fun y hy => (round_exp y (hwl.2.mem y hy)).1
    obtain ⟨h1, T', q, e', t1, t2, t3⟩ := rm (o := o + 1) (R := R) m hwl.2 hr (by omega)
    have hf1 : Fol 1 (tm m ++ (4, [41]) :: R) := by rw [e']; exact Fol.sign t1 t2 t3 (Nat.le_refl _) q
    have hx := reE (o := o + 1) hwl.1 (by omega) hf1
    have e : (4, [40]) :: tks (sep (fel (x :: m))) ++ [(4, [41])] ++ R = (4, [40]) :: (tf x ++ (tm m ++ (4, [41]) :: R)) := by rw [tks_sep]; simp
    rw [e]
    exact A.some (by omega) (tf_head x hwl.1 _).1 hx h1
theorem fol_sc (R : List Tk) : Fol 1 ((4, [59]) :: R) := Fol.sign (by decide) (by decide) (by decide) (Nat.le_refl _) R
theorem fol_br (R : List Tk) : Fol 1 ((4, [123]) :: R) := Fol.sign (by decide) (by decide) (by decide) (Nat.le_refl _) R
theorem sg_kw {s T : Str} (h : T ≠ s) (R : List Tk) : sg s ((3, T) :: R) = false := sg_ne h 3 R
theorem sg_kself (s : Str) (R : List Tk) : sg s ((3, s) :: R) = true := by simp [sg]
theorem B.of {o : Nat} {ts R : List Tk} {l : List Sta} (ho : o ≠ 100) (h : Ss (o + 1) ts (.ok l ((4, [125]) :: R))) : B o ((4, [123]) :: ts) (.ok l R) := by
  obtain ⟨n, h⟩ := h
  refine ⟨n + 1, ?_⟩
  rw [block, enter_o ho, bnd_o, h, bnd_o, want_o, bnd_o]
theorem Ss.nil {o : Nat} {R : List Tk} : Ss o ((4, [125]) :: R) (.ok [] ((4, [125]) :: R)) := ⟨1, by rw [stms, if_pos (sg_self _ _)]⟩
theorem Ss.cons {o : Nat} {ts r R : List Tk} {s : Sta} {l : List Sta} (hs : sg [125] ts = false) (h1 : S1 o ts (.ok s r)) (h2 : Ss o r (.ok l R)) : Ss o ts (.ok (s :: l) R) := by
  obtain ⟨n, h1, h2⟩ := two_fuel (mS _ _) (mSs _ _) h1 h2
  refine ⟨n + 1, ?_⟩
  rw [stms, if_neg (by rw [hs]; simp), h1, bnd_o, h2, bnd_o]
/-- A statement begins neither with a closing brace nor with 'else'. -/
theorem ts1_head (s : Sta) (R : List Tk) : sg [125] (ts1 s ++ R) = false ∧ sg kElse (ts1 s ++ R) = false := by
  cases s with
  | asg s x => rw [ts_asg]; exact ⟨by simp [sg], by simp [sg]⟩
  | sto s i x => rw [ts_sto]; exact ⟨by simp [sg], by simp [sg]⟩
  | ret x => rw [ts_ret]; exact ⟨by simp [sg], by simp [sg]⟩
  | cal s l => rw [ts_cal, tf_call]; exact ⟨by simp [sg], by simp [sg]⟩
  | hlt => rw [ts_hlt]; exact ⟨by simp [sg], by simp [sg]⟩
  | whl x a => rw [ts_whl]; exact ⟨by simp [sg], by simp [sg]⟩
  | ifs x a b => rw [ts_ifs]; exact ⟨by simp [sg], by simp [sg]⟩
def RS (s : Sta) : Prop := ∀ o R, o + ds s ≤ 100 → sg kElse R = false → S1 o (ts1 s ++ R) (.ok s R)
theorem reSs {o : Nat} {R : List Tk} : ∀ l : List Sta, (∀ s ∈ l, RS s) → o + dsl l ≤ 100 → Ss o (tsl l ++ (4, [125]) :: R) (.ok l ((4, [125]) :: R))
  | [], _, _ => by unfold tsl; rw [fsl]; exact Ss.nil
  | s :: l, h, hd => by
    rw [dsl] at hd
    rw [tsl_cons, List.append_assoc]
    have he : sg kElse (tsl l ++ (4, [125]) :: R) = false := by
      cases l with
      | nil => unfold tsl; rw [fsl]; simp [tks, sg]
      | cons t q => rw [tsl_cons, List.append_assoc]; exact (ts1_head t _).2
    exact Ss.cons (ts1_head s _).1 (h s List.mem_cons_self o _ (by omega) he) (reSs l (fun t ht => h t (List.mem_cons_of_mem _ ht)) (by omega))
theorem three_fuel {β γ δ : Type} {f : Nat → Option β} {g : Nat → Option γ} {k : Nat → Option δ} (hf : ∀ n, Mo (f n) (f (n + 1))) (hg : ∀ n, Mo (g n) (g (n + 1))) (hk : ∀ n, Mo (k n) (k (n + 1))) {a : β} {b : γ} {c : δ} (h1 : ∃ n, f n = some a) (h2 : ∃ n, g n = some b) (h3 : ∃ n, k n = some c) : ∃ n, f n = some a ∧ g n = some b ∧ k n = some c := by
  obtain ⟨n, h1, h2⟩ := two_fuel hf hg h1 h2
  obtain ⟨m, h3⟩ := h3
  exact ⟨max n m, Mo.upto hf (Nat.le_max_left n m) a h1, Mo.upto hg (Nat.le_max_left n m) b h2, Mo.upto hk (Nat.le_max_right n m) c h3⟩
theorem round_sta (s : Sta) : Wfs s → RS s := by
  have hb : ∀ (l : List Sta), (∀ s ∈ l, Wfs s → RS s) → Wfsl l → ∀ o R, o + dsl l + 1 ≤ 100 → B o ((4, [123]) :: tsl l ++ (4, [125]) :: R) (.ok l R) := fun l h hw o R hd => by
    exact B.of (by omega) (reSs l (fun s hs => h s hs (hw.mem s hs)) (by omega))
  induction s using Sta.ind with
  | h1 s x =>
    intro hw o R hd hR
    rw [Wfs] at hw
    rw [ds] at hd
    obtain ⟨n, hx⟩ := reE hw.2 hd (fol_sc R)
    have e : ts1 (.asg s x) ++ R = (2, s) :: (4, [61]) :: (tf x ++ (4, [59]) :: R) := by rw [ts_asg]; simp
    refine ⟨n + 1, ?_⟩
    rw [e, stm, if_neg (by simp [sg]), if_neg (by simp [sg]), if_neg (by simp [sg]), if_neg (by simp [sg]), name_o, bnd_o, if_neg (by simp [sg]), if_neg (by simp [sg]), want_o, bnd_o, hx, bnd_o, want_o, bnd_o]
  | h2 s i x =>
    intro hw o R hd hR
    rw [Wfs] at hw
    rw [ds] at hd
    have h1 := reE (o := o) hw.2.2 (by omega) (fol_sc R)
    have h2 := reE (o := o + 1) (R := (4, [93]) :: (4, [61]) :: (tf x ++ (4, [59]) :: R)) hw.2.1 (by omega) (Fol.sign (by decide) (by decide) (by decide) (Nat.le_refl _) _)
    obtain ⟨n, hx, hi⟩ := two_fuel (mE _ _ _) (mE _ _ _) h1 h2
    have e : ts1 (.sto s i x) ++ R = (2, s) :: (4, [91]) :: (tf i ++ (4, [93]) :: (4, [61]) :: (tf x ++ (4, [59]) :: R)) := by rw [ts_sto]; simp
    refine ⟨n + 1, ?_⟩
    rw [e, stm, if_neg (by simp [sg]), if_neg (by simp [sg]), if_neg (by simp [sg]), if_neg (by simp [sg]), name_o, bnd_o, if_neg (by simp [sg]), if_pos (sg_self _ _), enter_o (by omega), bnd_o, hi, bnd_o, want_o, bnd_o, want_o, bnd_o, hx, bnd_o, want_o, bnd_o]
  | h3 x a b iha ihb =>
    intro hw o R hd hR
    rw [Wfs] at hw
    rw [ds] at hd
    cases b with
    | nil =>
      simp only [List.isEmpty_nil, if_true] at hd
      have h1 := reE (o := o) (R := (4, [123]) :: tsl a ++ (4, [125]) :: R) hw.1 (by omega) (fol_br _)
      have h2 := hb a iha hw.2.1 o R (by omega)
      obtain ⟨n, hx, ha⟩ := two_fuel (mE _ _ _) (mB _ _) h1 h2
      have e : ts1 (.ifs x a []) ++ R = (3, kIf) :: (tf x ++ ((4, [123]) :: tsl a ++ (4, [125]) :: R)) := by rw [ts_ifs]; simp
      refine ⟨n + 1, ?_⟩
      rw [e, stm, if_pos (sg_kself _ _), List.tail_cons, hx, bnd_o, ha, bnd_o, if_neg (by rw [hR]; simp)]
    | cons t q =>
      simp only [List.isEmpty_cons, Bool.false_eq_true, if_false] at hd
      have h1 := reE (o := o) (R := (4, [123]) :: tsl a ++ (4, [125]) :: (3, kElse) :: ((4, [123]) :: tsl (t :: q) ++ (4, [125]) :: R)) hw.1 (by omega) (fol_br _)
      have h2 := hb a iha hw.2.1 o ((3, kElse) :: ((4, [123]) :: tsl (t :: q) ++ (4, [125]) :: R)) (by omega)
      have h3 := hb (t :: q) ihb hw.2.2 o R (by omega)
      obtain ⟨n, hx, ha, hq⟩ := three_fuel (mE _ _ _) (mB _ _) (mB _ _) h1 h2 h3
      have e : ts1 (.ifs x a (t :: q)) ++ R = (3, kIf) :: (tf x ++ ((4, [123]) :: tsl a ++ (4, [125]) :: (3, kElse) :: ((4, [123]) :: tsl (t :: q) ++ (4, [125]) :: R))) := by rw [ts_ifs]; simp
      refine ⟨n + 1, ?_⟩
      rw [e, stm, if_pos (sg_kself _ _), List.tail_cons, hx, bnd_o, ha, bnd_o, if_pos (sg_kself _ _), List.tail_cons, hq, bnd_o]
  | h4 x a iha =>
    intro hw o R hd hR
    rw [Wfs] at hw
    rw [ds] at hd
    have h1 := reE (o := o) (R := (4, [123]) :: tsl a ++ (4, [125]) :: R) hw.1 (by omega) (fol_br _)
    have h2 := hb a iha hw.2 o R (by omega)
    obtain ⟨n, hx, ha⟩ := two_fuel (mE _ _ _) (mB _ _) h1 h2
    have e : ts1 (.whl x a) ++ R = (3, kWhile) :: (tf x ++ ((4, [123]) :: tsl a ++ (4, [125]) :: R)) := by rw [ts_whl]; simp
    refine ⟨n + 1, ?_⟩
    rw [e, stm, if_neg (by simp [sg]), if_pos (sg_kself _ _), List.tail_cons, hx, bnd_o, ha, bnd_o]
  | h5 x =>
    intro hw o R hd hR
    rw [Wfs] at hw
    rw [ds] at hd
    obtain ⟨n, hx⟩ := reE hw hd (fol_sc R)
    have e : ts1 (.ret x) ++ R = (3, kReturn) :: (tf x ++ (4, [59]) :: R) := by rw [ts_ret]; simp
    refine ⟨n + 1, ?_⟩
    rw [e, stm, if_neg (by simp [sg]), if_neg (by simp [sg]), if_pos (sg_kself _ _), List.tail_cons, hx, bnd_o, want_o, bnd_o]
  | h6 s l =>
    intro hw o R hd hR
    rw [Wfs] at hw
    rw [ds] at hd
    obtain ⟨n, hl⟩ := reA (o := o) (R := (4, [59]) :: R) hw (by omega)
    have e : ts1 (.cal s l) ++ R = (2, s) :: ((4, [40]) :: tks (sep (fel l)) ++ [(4, [41])] ++ (4, [59]) :: R) := by rw [ts_cal, tf_call]; simp
    refine ⟨n + 1, ?_⟩
    rw [e, stm, if_neg (by simp [sg]), if_neg (by simp [sg]), if_neg (by simp [sg]), if_neg (by simp [sg]), name_o, bnd_o, if_pos (by simp [sg]), hl, bnd_o, want_o, bnd_o]
  | h7 =>
    intro hw o R hd hR
    refine ⟨1, ?_⟩
    rw [ts_hlt]
    show stm 1 o ((3, kHalt) :: (4, [59]) :: R) = _
    rw [stm, if_neg (by simp [sg]), if_neg (by simp [sg]), if_neg (by simp [sg]), if_pos (sg_kself _ _), List.tail_cons, want_o, bnd_o]

/-! ### Declarations -/
def nm : List Str → List Tk
  | [] => []
  | s :: r => (4, [44]) :: (2, s) :: nm r
theorem tks_fns : ∀ (s : Str) (l : List Str), tks (fns (s :: l)) = (2, s) :: nm l
  | s, [] => rfl
  | s, t :: r => by
    have := tks_fns t r
    unfold fns at *
    rw [List.map_cons, List.map_cons, sep, tks_app, tks_app, ← List.map_cons (f := fun s => [It.t 2 s]) (a := t), this, nm]
    simp [tks]
theorem nm_len : ∀ l : List Str, (nm l).length = 2 * l.length
  | [] => rfl
  | s :: r => by rw [nm, List.length_cons, List.length_cons, nm_len r, List.length_cons]; omega
theorem re_nm {R : List Tk} (hR : sg [44] R = false) : ∀ l : List Str, ∃ n, nmore n (nm l ++ R) = some (.ok l R)
  | [] => ⟨1, by rw [nm, List.nil_append, nmore, hR]; rfl⟩
  | s :: r => by
    obtain ⟨n, h⟩ := re_nm hR r
    refine ⟨n + 1, ?_⟩
    rw [nm, List.cons_append, List.cons_append, nmore, if_pos (sg_self _ _), List.tail_cons, name_o, bnd_o, h, bnd_o]
theorem re_names {R : List Tk} (hR : sg [44] R = false) (s : Str) (l : List Str) : ∃ n, names n ((2, s) :: nm l ++ R) = some (.ok (s :: l) R) := by
  obtain ⟨n, h⟩ := re_nm hR l
  refine ⟨n, ?_⟩
  unfold names
  rw [List.cons_append, name_o, bnd_o, h, bnd_o]
theorem re_vars (k : Tk) (s : Str) (l : List Str) (R : List Tk) : ∃ n, vars n (k :: (2, s) :: nm l ++ (4, [59]) :: R) = some (.ok (s :: l) R) := by
  obtain ⟨n, h⟩ := re_names (R := (4, [59]) :: R) (sg_ne (by decide) _ _) s l
  refine ⟨n, ?_⟩
  unfold vars
  rw [List.cons_append, List.tail_cons, h, bnd_o, want_o, bnd_o]
/-- Well-formed functions and programs. -/
def Wff (f : Fn) : Prop := Tk1 2 f.name ∧ (∀ s ∈ f.params, Tk1 2 s) ∧ (∀ s ∈ f.locals, Tk1 2 s) ∧ Wfsl f.body ∧ 1 + dsl f.body ≤ 100
def Wfp (p : Prog) : Prop := (∀ s ∈ p.vars, Tk1 2 s) ∧ (∀ a ∈ p.arrays, Tk1 2 a.1 ∧ a.2 ≤ 4294967295) ∧ (∀ f ∈ p.funcs, Wff f)
def tv (l : List Str) : List Tk := match l with | [] => [] | s :: r => (3, kVar) :: (2, s) :: nm r ++ [(4, [59])]
theorem tks_fvars (d : Nat) (l : List Str) : tks (fvars d l) = tv l := by
  unfold fvars tv
  cases l with
  | nil => rfl
  | cons s r =>
    simp only [List.isEmpty_cons, Bool.false_eq_true, if_false]
    rw [tks_app, tks_app, tks_app, tks_ind, tks_fns]
    simp [tks]
def tar (a : Str × Nat) : List Tk := [(3, kArray), (2, a.1), (4, [91]), (1, dec a.2), (4, [93]), (4, [59])]
theorem tks_farr (a : Str × Nat) : tks (farr a) = tar a := rfl
def tp (l : List Str) : List Tk := match l with | [] => [] | s :: r => (2, s) :: nm r
def tfn (f : Fn) : List Tk := (3, kFunc) :: (2, f.name) :: (4, [40]) :: tp f.params ++ (4, [41]) :: (4, [123]) :: tv f.locals ++ tsl f.body ++ [(4, [125])]
theorem tks_ffn (f : Fn) : tks (ffn f) = tfn f := by
  unfold ffn tfn
  have hp : tks (fns f.params) = tp f.params := by
    unfold tp
    cases f.params with
    | nil => rfl
    | cons s r => exact tks_fns s r
  simp only [tks_app, tks_fvars, tks_fsl, hp]
  simp [tks]
theorem re_lcls {R : List Tk} (l : List Str) (hR : sg kVar R = false) : ∃ n, lcls n (tv l ++ R) = some (.ok l R) := by
  unfold tv
  cases l with
  | nil => exact ⟨1, by rw [List.nil_append, lcls, hR]; rfl⟩
  | cons s r =>
    obtain ⟨n, h⟩ := re_vars (3, kVar) s r R
    have h2 : lcls (n + 1) R = some (.ok [] R) := by rw [lcls, hR]; rfl
    refine ⟨n + 1 + 1, ?_⟩
    have e : (3, kVar) :: (2, s) :: nm r ++ [(4, [59])] ++ R = (3, kVar) :: (2, s) :: nm r ++ (4, [59]) :: R := by simp
    have h3 := mono_vars n _ _ h
    have hk : sg kVar ((3, kVar) :: (2, s) :: nm r ++ (4, [59]) :: R) = true := by simp [sg]
    rw [e, lcls, if_pos hk, h3, bnd_o, h2, bnd_o, List.append_nil]
theorem tsl_var (l : List Sta) (R : List Tk) : sg kVar (tsl l ++ (4, [125]) :: R) = false := by
  cases l with
  | nil => unfold tsl; rw [fsl]; simp [tks, sg]
  | cons s r =>
    rw [tsl_cons, List.append_assoc]
    cases s with
    | asg s x => rw [ts_asg]; simp [sg]
    | sto s i x => rw [ts_sto]; simp [sg]
    | ret x => rw [ts_ret]; simp [sg]
    | cal s l => rw [ts_cal, tf_call]; simp [sg]
    | hlt => rw [ts_hlt]; simp [sg]
    | whl x a => rw [ts_whl]; simp [sg]
    | ifs x a b => rw [ts_ifs]; simp [sg]
theorem re_func {f : Fn} (hw : Wff f) (R : List Tk) : ∃ n, func n (tfn f ++ R) = some (.ok f R) := by
  obtain ⟨w1, w2, w3, w4, w5⟩ := hw
  have h1 := reSs (o := 1) (R := R) f.body (fun s hs => round_sta s (w4.mem s hs)) w5
  have h2 := re_lcls (R := tsl f.body ++ (4, [125]) :: R) f.locals (tsl_var _ _)
  have h3 : ∃ n, prms n (tp f.params ++ (4, [41]) :: ((4, [123]) :: (tv f.locals ++ (tsl f.body ++ (4, [125]) :: R)))) = some (.ok f.params ((4, [41]) :: ((4, [123]) :: (tv f.locals ++ (tsl f.body ++ (4, [125]) :: R))))) := by
    unfold prms tp
    cases f.params with
    | nil => exact ⟨0, by rw [List.nil_append, if_pos (sg_self _ _)]⟩
    | cons s r =>
      obtain ⟨n, h⟩ := re_names (R := (4, [41]) :: ((4, [123]) :: (tv f.locals ++ (tsl f.body ++ (4, [125]) :: R)))) (sg_ne (by decide) _ _) s r
      exact ⟨n, by rw [if_neg (by simp [sg]), h]⟩
  have mpr : ∀ ts n, Mo (prms n ts) (prms (n + 1) ts) := fun ts n => Mo.ite (Mo.refl _) (mono_names n ts)
  obtain ⟨n, h1, h2, h3⟩ := three_fuel (mSs _ _) (fun n => mono_lcls n _) (mpr _) h1 h2 h3
  refine ⟨n, ?_⟩
  have e : tfn f ++ R = (3, kFunc) :: (2, f.name) :: (4, [40]) :: (tp f.params ++ (4, [41]) :: ((4, [123]) :: (tv f.locals ++ (tsl f.body ++ (4, [125]) :: R)))) := by unfold tfn; simp
  unfold func
  rw [e, List.tail_cons, name_o, bnd_o, enter_o (by decide), bnd_o, h3, bnd_o, want_o, bnd_o, enter_o (by decide), bnd_o, h2, bnd_o, h1, bnd_o, want_o, bnd_o]
def Pg (p : Prog) (ts : List Tk) (r : Rs Prog) : Prop := ∃ n, prog n p ts = some r
theorem re_funcs (p : Prog) : ∀ l : List Fn, (∀ f ∈ l, Wff f) → Pg p (l.flatMap tfn) (.ok { p with funcs := p.funcs ++ l } []) := by
  intro l
  induction l generalizing p with
  | nil => intro _; exact ⟨1, by rw [List.flatMap_nil, prog, if_pos rfl, List.append_nil]⟩
  | cons f r ih =>
    intro h
    have h1 := re_func (h f List.mem_cons_self) (r.flatMap tfn)
    have h2 := ih { p with funcs := p.funcs ++ [f] } (fun g hg => h g (List.mem_cons_of_mem _ hg))
    obtain ⟨n, h1, h2⟩ := two_fuel (fun n => mono_func n _) (fun n => mono_prog n _ _) h1 h2
    refine ⟨n + 1, ?_⟩
    rw [List.flatMap_cons, prog, if_neg (by unfold tfn; simp), if_neg (by unfold tfn; simp [sg]), if_neg (by unfold tfn; simp [sg]), if_pos (by unfold tfn; simp [sg]), h1, bnd_o, h2]
    simp
theorem re_arrs (p : Prog) (fl : List Fn) (hf : ∀ f ∈ fl, Wff f) : ∀ l : List (Str × Nat), Pg p (l.flatMap tar ++ fl.flatMap tfn) (.ok { p with arrays := p.arrays ++ l, funcs := p.funcs ++ fl } []) := by
  intro l
  induction l generalizing p with
  | nil =>
    have := re_funcs p fl hf
    rw [List.flatMap_nil, List.nil_append, List.append_nil]
    exact this
  | cons a r ih =>
    obtain ⟨n, h2⟩ := ih { p with arrays := p.arrays ++ [a] }
    have h1 : arr (tar a ++ (r.flatMap tar ++ fl.flatMap tfn)) = some (.ok a (r.flatMap tar ++ fl.flatMap tfn)) := by
      unfold arr tar
      rw [List.cons_append, List.tail_cons, List.cons_append, name_o, bnd_o, List.cons_append, enter_o (by decide), bnd_o, List.cons_append, number_o, bnd_o, List.cons_append, want_o, bnd_o, List.cons_append, want_o, bnd_o, nval_dec]
      rfl
    refine ⟨n + 1, ?_⟩
    rw [List.flatMap_cons, List.append_assoc, prog, if_neg (by unfold tar; simp), if_neg (by unfold tar; simp [sg]), if_pos (by unfold tar; simp [sg]), h1, bnd_o, h2]
    simp
theorem tks_fmt (p : Prog) : tks (fmt p) = tv p.vars ++ (p.arrays.flatMap tar ++ p.funcs.flatMap tfn) := by
  have ha : ∀ l : List (Str × Nat), tks (l.flatMap farr) = l.flatMap tar := fun l => by
    induction l with
    | nil => rfl
    | cons a r ih => rw [List.flatMap_cons, List.flatMap_cons, tks_app, ih, tks_farr]
  have hf : ∀ l : List Fn, tks (l.flatMap ffn) = l.flatMap tfn := fun l => by
    induction l with
    | nil => rfl
    | cons a r ih => rw [List.flatMap_cons, List.flatMap_cons, tks_app, ih, tks_ffn]
  unfold fmt
  rw [tks_app, tks_app, tks_fvars, ha, hf, List.append_assoc]
/-- The tokens of a formatted program are read back. -/
theorem round_prog {p : Prog} (hw : Wfp p) : Pg Prog.nil (tks (fmt p)) (.ok p []) := by
  rw [tks_fmt]
  obtain ⟨vs, as, fs⟩ := p
  obtain ⟨w1, w2, w3⟩ := hw
  cases vs with
  | nil =>
    have := re_arrs Prog.nil fs w3 as
    unfold tv
    exact this
  | cons s r =>
    have h1 := re_vars (3, kVar) s r (as.flatMap tar ++ fs.flatMap tfn)
    have h2 := re_arrs { Prog.nil with vars := s :: r } fs w3 as
    obtain ⟨n, h1, h2⟩ := two_fuel (fun n => mono_vars n _) (fun n => mono_prog n _ _) h1 h2
    refine ⟨n + 1, ?_⟩
    unfold tv
    dsimp only
    have e : (3, kVar) :: (2, s) :: nm r ++ [(4, [59])] ++ (as.flatMap tar ++ fs.flatMap tfn) = (3, kVar) :: (2, s) :: nm r ++ (4, [59]) :: (as.flatMap tar ++ fs.flatMap tfn) := by simp
    rw [e, prog, if_neg (by simp), if_pos (by simp [sg]), h1, bnd_o]
    exact h2
end Go.Proofs.YtpbcncfbfbghcaaGreatDoor.L20
namespace Go.Proofs.YtpbcncfbfbghcaaGreatDoor.L20
open Mem L19
set_option linter.unusedVariables false
set_option linter.unusedSimpArgs false

theorem read_nm : ∀ n ts l r, Good ts → nmore n ts = some (.ok l r) → (∀ s ∈ l, Tk1 2 s) ∧ 2 * l.length + r.length ≤ ts.length ∧ r <:+ ts
  | 0, ts, l, r, _, h => by rw [nmore] at h; cases h
  | n + 1, ts, l, r, hg, h => by
    rw [nmore] at h
    split at h
    · rename_i hs
      have p0 := sg_pos hs
      obtain ⟨s, t1, hn, h⟩ := bnd_ok h
      obtain ⟨n1, rfl, rfl⟩ := name_ok hn
      have p1 := kd_pos n1
      have hg1 := hg.suf (suf_tail ts)
      have hT := kd_tk n1 hg1
      obtain ⟨m, t2, hm, h⟩ := bnd_ok h
      obtain ⟨rfl, rfl⟩ := some_ok h
      obtain ⟨a1, a2, a3⟩ := read_nm n _ m t2 (hg1.suf (suf_tail _)) hm
      refine ⟨?_, by rw [List.length_cons]; omega, (a3.trans (suf_tail _)).trans (suf_tail ts)⟩
      intro s hs
      rcases List.mem_cons.1 hs with rfl | hs
      · exact hT
      · exact a1 s hs
    · obtain ⟨rfl, rfl⟩ := some_ok h
      exact ⟨by simp, by simp, List.suffix_refl _⟩
theorem read_names {n : Nat} {ts r : List Tk} {l : List Str} (hg : Good ts) (h : names n ts = some (.ok l r)) : (∀ s ∈ l, Tk1 2 s) ∧ 2 * l.length + r.length ≤ ts.length + 1 ∧ l ≠ [] ∧ r <:+ ts := by
  unfold names at h
  obtain ⟨s, t1, hn, h⟩ := bnd_ok h
  obtain ⟨n1, rfl, rfl⟩ := name_ok hn
  have p1 := kd_pos n1
  obtain ⟨m, t2, hm, h⟩ := bnd_ok h
  obtain ⟨rfl, rfl⟩ := some_ok h
  obtain ⟨a1, a2, a3⟩ := read_nm n _ m t2 (hg.suf (suf_tail _)) hm
  refine ⟨?_, by rw [List.length_cons]; omega, by simp, a3.trans (suf_tail ts)⟩
  intro s hs
  rcases List.mem_cons.1 hs with rfl | hs
  · exact kd_tk n1 hg
  · exact a1 s hs
theorem tail_len (ts : List Tk) (h : ts ≠ []) : ts.tail.length + 1 = ts.length := by
  cases ts with
  | nil => exact absurd rfl h
  | cons t r => rfl
theorem read_vars {n : Nat} {ts r : List Tk} {l : List Str} (hg : Good ts) (h0 : ts ≠ []) (h : vars n ts = some (.ok l r)) : (∀ s ∈ l, Tk1 2 s) ∧ 2 * l.length + 1 + r.length ≤ ts.length ∧ l ≠ [] ∧ r <:+ ts := by
  unfold vars at h
  obtain ⟨m, t1, hm, h⟩ := bnd_ok h
  obtain ⟨_, t2, hw, h⟩ := bnd_ok h
  obtain ⟨w1, rfl⟩ := want_ok hw
  obtain ⟨rfl, rfl⟩ := some_ok h
  obtain ⟨a1, a2, a3, a4⟩ := read_names (hg.suf (suf_tail _)) hm
  have p0 := tail_len ts h0
  have p1 := sg_pos w1
  exact ⟨a1, by omega, a3, ((suf_tail _).trans a4).trans (suf_tail ts)⟩
def vc (l : List Str) : Nat := if l.isEmpty then 0 else 2 * l.length + 1
theorem tv_len (l : List Str) : (tv l).length = vc l := by
  unfold tv vc
  cases l with
  | nil => rfl
  | cons s r => simp [nm_len]; omega
theorem vc_app (a b : List Str) : vc (a ++ b) ≤ vc a + vc b := by
  unfold vc
  cases a with
  | nil => simp
  | cons s r =>
    cases b with
    | nil => simp
    | cons t q => simp; omega
theorem vc_pos {l : List Str} (h : l ≠ []) : vc l = 2 * l.length + 1 := by
  unfold vc
  cases l with
  | nil => exact absurd rfl h
  | cons s r => rfl
theorem read_lcls : ∀ n ts l r, Good ts → lcls n ts = some (.ok l r) → (∀ s ∈ l, Tk1 2 s) ∧ vc l + r.length ≤ ts.length ∧ r <:+ ts
  | 0, ts, l, r, _, h => by rw [lcls] at h; cases h
  | n + 1, ts, l, r, hg, h => by
    rw [lcls] at h
    split at h
    · rename_i hs
      obtain ⟨a, t1, ha, h⟩ := bnd_ok h
      obtain ⟨b, t2, hb, h⟩ := bnd_ok h
      obtain ⟨rfl, rfl⟩ := some_ok h
      obtain ⟨a1, a2, a3, a4⟩ := read_vars hg (by rintro rfl; cases hs) ha
      obtain ⟨b1, b2, b3⟩ := read_lcls n _ b t2 (hg.suf a4) hb
      have hv := vc_app a b
      rw [vc_pos a3] at hv
      refine ⟨?_, by omega, b3.trans a4⟩
      intro s hs
      rcases List.mem_append.1 hs with hs | hs
      · exact a1 s hs
      · exact b1 s hs
    · obtain ⟨rfl, rfl⟩ := some_ok h
      exact ⟨by simp, by simp [vc], List.suffix_refl _⟩
theorem tp_len (l : List Str) : (tp l).length + 1 = if l.isEmpty then 1 else 2 * l.length := by
  unfold tp
  cases l with
  | nil => rfl
  | cons s r => simp [nm_len]; omega
theorem read_func {n : Nat} {ts r : List Tk} {f : Fn} (hg : Good ts) (h0 : ts ≠ []) (h : func n ts = some (.ok f r)) : Wff f ∧ (tfn f).length + r.length ≤ ts.length ∧ r <:+ ts := by
  unfold func at h
  have p0 := tail_len ts h0
  obtain ⟨s, t1, hn, h⟩ := bnd_ok h
  obtain ⟨n1, rfl, rfl⟩ := name_ok hn
  have p1 := kd_pos n1
  have g1 := hg.suf (suf_tail ts)
  have hT := kd_tk n1 g1
  obtain ⟨_, t2, he, h⟩ := bnd_ok h
  obtain ⟨e1, _, rfl⟩ := enter_ok he
  have p2 := sg_pos e1
  have g2 := (g1.suf (suf_tail _)).suf (suf_tail _)
  obtain ⟨p, t3, hp, h⟩ := bnd_ok h
  have hprm : (∀ s ∈ p, Tk1 2 s) ∧ (tp p).length + t3.length ≤ ts.tail.tail.tail.length ∧ t3 <:+ ts.tail.tail.tail := by
    unfold prms at hp
    have hl := tp_len p
    split at hp
    · obtain ⟨rfl, rfl⟩ := some_ok hp
      exact ⟨by simp, by simp [tp], List.suffix_refl _⟩
    · obtain ⟨a1, a2, a3, a4⟩ := read_names g2 hp
      cases p with
      | nil => exact absurd rfl a3
      | cons x q =>
        rw [List.isEmpty_cons, if_neg (by simp)] at hl
        exact ⟨a1, by omega, a4⟩
  obtain ⟨b1, b2, b3⟩ := hprm
  obtain ⟨_, t4, hw, h⟩ := bnd_ok h
  obtain ⟨w1, rfl⟩ := want_ok hw
  have p3 := sg_pos w1
  obtain ⟨_, t5, he2, h⟩ := bnd_ok h
  obtain ⟨e2, _, rfl⟩ := enter_ok he2
  have p4 := sg_pos e2
  have g3 := ((g2.suf b3).suf (suf_tail _)).suf (suf_tail _)
  obtain ⟨l, t6, hl, h⟩ := bnd_ok h
  obtain ⟨c1, c2, c3⟩ := read_lcls n _ l t6 g3 hl
  obtain ⟨b, t7, hb, h⟩ := bnd_ok h
  obtain ⟨d1, d2, d3, d4⟩ := (read2 n).2.1 1 t6 b t7 (by omega) (g3.suf c3) hb
  obtain ⟨_, t8, hw2, h⟩ := bnd_ok h
  obtain ⟨w2, rfl⟩ := want_ok hw2
  have p5 := sg_pos w2
  obtain ⟨rfl, rfl⟩ := some_ok h
  refine ⟨⟨hT, b1, c1, d1, d2⟩, ?_, ((((((((suf_tail _).trans d4).trans c3).trans (suf_tail _)).trans (suf_tail _)).trans b3).trans (suf_tail _)).trans (suf_tail _)).trans (suf_tail ts)⟩
  unfold tfn
  simp only [List.length_cons, List.length_append, List.length_nil, tv_len]
  omega
theorem fm_snoc {α β : Type} (f : α → List β) (l : List α) (a : α) : (l ++ [a]).flatMap f = l.flatMap f ++ f a := by rw [List.flatMap_append]; simp
theorem read_prog : ∀ n p ts q r, Good ts → Wfp p → prog n p ts = some (.ok q r) → Wfp q ∧ r = [] ∧ (tks (fmt q)).length ≤ (tks (fmt p)).length + ts.length
  | 0, p, ts, q, r, _, _, h => by rw [prog] at h; cases h
  | n + 1, p, ts, q, r, hg, hp, h => by
    rw [prog] at h
    split at h
    · rename_i h0
      obtain ⟨rfl, rfl⟩ := some_ok h
      exact ⟨hp, rfl, by omega⟩
    rename_i h0
    split at h
    · obtain ⟨l, t1, hl, h⟩ := bnd_ok h
      obtain ⟨a1, a2, a3, a4⟩ := read_vars hg h0 hl
      have hwp : Wfp { p with vars := p.vars ++ l } := ⟨fun s hs => (List.mem_append.1 (show s ∈ p.vars ++ l from hs)).elim (hp.1 s) (a1 s), hp.2⟩
      obtain ⟨b1, b2, b3⟩ := read_prog n { p with vars := p.vars ++ l } t1 q r (hg.suf a4) hwp h
      refine ⟨b1, b2, ?_⟩
      rw [tks_fmt, tks_fmt] at b3
      rw [tks_fmt, tks_fmt p]
      simp only [List.length_append, tv_len] at b3 ⊢
      have hv := vc_app p.vars l
      rw [vc_pos a3] at hv
      omega
    split at h
    · obtain ⟨a, t1, ha, h⟩ := bnd_ok h
      unfold arr at ha
      obtain ⟨s, u1, hn, ha⟩ := bnd_ok ha
      obtain ⟨n1, rfl, rfl⟩ := name_ok hn
      obtain ⟨_, u2, he, ha⟩ := bnd_ok ha
      obtain ⟨e1, _, rfl⟩ := enter_ok he
      obtain ⟨k, u3, hk, ha⟩ := bnd_ok ha
      obtain ⟨k1, rfl, rfl⟩ := number_ok hk
      obtain ⟨_, u4, hw, ha⟩ := bnd_ok ha
      obtain ⟨w1, rfl⟩ := want_ok hw
      obtain ⟨_, u5, hw2, ha⟩ := bnd_ok ha
      obtain ⟨w2, rfl⟩ := want_ok hw2
      obtain ⟨rfl, rfl⟩ := some_ok ha
      have p0 := tail_len ts h0
      have p1 := kd_pos n1
      have p2 := sg_pos e1
      have p3 := kd_pos k1
      have p4 := sg_pos w1
      have p5 := sg_pos w2
      have g1 := hg.suf (suf_tail ts)
      have g2 := (g1.suf (suf_tail _)).suf (suf_tail _)
      have hT := kd_tk n1 g1
      have hN := tk_num (kd_tk k1 g2)
      have hwp : Wfp { p with arrays := p.arrays ++ [(tx ts.tail, nval (tx ts.tail.tail.tail))] } := ⟨hp.1, fun x hx => (List.mem_append.1 (show x ∈ p.arrays ++ [(tx ts.tail, nval (tx ts.tail.tail.tail))] from hx)).elim (hp.2.1 x) (fun hx => by rw [List.mem_singleton.1 hx]; exact ⟨hT, hN⟩), hp.2.2⟩
      obtain ⟨b1, b2, b3⟩ := read_prog n _ _ q r (((g2.suf (suf_tail _)).suf (suf_tail _)).suf (suf_tail _)) hwp h
      refine ⟨b1, b2, ?_⟩
      rw [tks_fmt, tks_fmt] at b3
      rw [tks_fmt, tks_fmt p]
      simp only [List.length_append, fm_snoc] at b3 ⊢
      have ht : (tar (tx ts.tail, nval (tx ts.tail.tail.tail))).length = 6 := rfl
      omega
    split at h
    · obtain ⟨f, t1, hf, h⟩ := bnd_ok h
      obtain ⟨a1, a2, a3⟩ := read_func hg h0 hf
      have hwp : Wfp { p with funcs := p.funcs ++ [f] } := ⟨hp.1, hp.2.1, fun x hx => (List.mem_append.1 (show x ∈ p.funcs ++ [f] from hx)).elim (hp.2.2 x) (fun hx => by rw [List.mem_singleton.1 hx]; exact a1)⟩
      obtain ⟨b1, b2, b3⟩ := read_prog n _ t1 q r (hg.suf a3) hwp h
      refine ⟨b1, b2, ?_⟩
      rw [tks_fmt, tks_fmt] at b3
      rw [tks_fmt, tks_fmt p]
      simp only [List.length_append, fm_snoc] at b3 ⊢
      omega
    · cases h
end Go.Proofs.YtpbcncfbfbghcaaGreatDoor.L20
