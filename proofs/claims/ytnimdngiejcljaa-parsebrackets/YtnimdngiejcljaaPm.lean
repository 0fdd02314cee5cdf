/- A query's tree, as maths: what the tokens say. -/
import Derived.Test.YtnimdngiejcljaaMb
namespace Go.Proofs.Ytnimdngiejcljaa
open Go.RowKit
set_option linter.unusedVariables false
set_option linter.unusedSimpArgs false
set_option maxRecDepth 20000

/-- A matcher: its kind, name, value. -/
abbrev Mt := Int × ByteArray × ByteArray
/-- A node. -/
structure Nd where
  kind : Int
  op : Int
  text : ByteArray
  mat : List Mt
  width : Int
  back : Int
  group : Int
  names : List ByteArray
  bool : Bool
  parts : Int
def hd : List Tok → Tok
  | [] => (0, 0, ⟨#[]⟩, 0)
  | t :: _ => t
/-- What reading comes to: something, and the tokens behind it; or a place and a code. -/
inductive Rs (α : Type) where
  | ok (a : α) (r : List Tok)
  | bad (p c : Int)
  | out
def Rs.bind {α β : Type} (x : Rs α) (f : α → List Tok → Rs β) : Rs β :=
  match x with
  | .ok a r => f a r
  | .bad p c => .bad p c
  | .out => .out
theorem bind_ok {α β : Type} (a : α) (r : List Tok) (f : α → List Tok → Rs β) : (Rs.ok a r).bind f = f a r := rfl
theorem bind_bad {α β : Type} (p c : Int) (f : α → List Tok → Rs β) : (Rs.bad p c : Rs α).bind f = .bad p c := rfl
def failC (ts : List Tok) : Int := if (hd ts).1 = 0 then 180 else 181
def fail {α : Type} (ts : List Tok) : Rs α := .bad (hd ts).2.1 (failC ts)
def meanB (t : Tok) : Bool := decide (t.1 = 3) || decide (t.1 = 5)
def isB (s : ByteArray) (ts : List Tok) : Bool := meanB (hd ts) && decide ((hd ts).2.2.1 = s)
def must (b : Bool) (ts : List Tok) : Rs Unit := if b = true then .ok () ts else fail ts
def need (s : ByteArray) (ts : List Tok) : Rs Unit := if isB s ts = true then .ok () ts.tail else fail ts
/-- Where a text stands in a row; -1: nowhere. -/
def findB (s : ByteArray) : List ByteArray → Int
  | [] => -1
  | x :: r => if s = x then 0 else (if findB s r < 0 then -1 else findB s r + 1)
def numIn (row : List ByteArray) (t : Tok) : Int := if meanB t = true then max (findB t.2.2.1 row) 0 else 0
def funcsR : List ByteArray := [⟨#[]⟩, ⟨#[114, 97, 116, 101]⟩, ⟨#[105, 110, 99, 114, 101, 97, 115, 101]⟩, ⟨#[100, 101, 108, 116, 97]⟩, ⟨#[115, 117, 109, 95, 111, 118, 101, 114, 95, 116, 105, 109, 101]⟩, ⟨#[97, 118, 103, 95, 111, 118, 101, 114, 95, 116, 105, 109, 101]⟩, ⟨#[109, 105, 110, 95, 111, 118, 101, 114, 95, 116, 105, 109, 101]⟩, ⟨#[109, 97, 120, 95, 111, 118, 101, 114, 95, 116, 105, 109, 101]⟩, ⟨#[99, 111, 117, 110, 116, 95, 111, 118, 101, 114, 95, 116, 105, 109, 101]⟩, ⟨#[108, 97, 115, 116, 95, 111, 118, 101, 114, 95, 116, 105, 109, 101]⟩, ⟨#[119, 97, 118, 101]⟩, ⟨#[97, 98, 115]⟩, ⟨#[102, 108, 111, 111, 114]⟩]
def aggsR : List ByteArray := [⟨#[]⟩, ⟨#[115, 117, 109]⟩, ⟨#[109, 105, 110]⟩, ⟨#[109, 97, 120]⟩, ⟨#[97, 118, 103]⟩, ⟨#[99, 111, 117, 110, 116]⟩]
def opsR : List ByteArray := [⟨#[]⟩, ⟨#[43]⟩, ⟨#[45]⟩, ⟨#[42]⟩, ⟨#[47]⟩, ⟨#[61, 61]⟩, ⟨#[33, 61]⟩, ⟨#[60]⟩, ⟨#[60, 61]⟩, ⟨#[62]⟩, ⟨#[62, 61]⟩, ⟨#[97, 110, 100]⟩, ⟨#[111, 114]⟩, ⟨#[117, 110, 108, 101, 115, 115]⟩]
def grpsR : List ByteArray := [⟨#[]⟩, ⟨#[98, 121]⟩, ⟨#[119, 105, 116, 104, 111, 117, 116]⟩, ⟨#[111, 110]⟩, ⟨#[105, 103, 110, 111, 114, 105, 110, 103]⟩]
def kindsR : List ByteArray := [⟨#[]⟩, ⟨#[61]⟩, ⟨#[33, 61]⟩, ⟨#[61, 126]⟩, ⟨#[33, 126]⟩]
def boolS : ByteArray := ⟨#[98, 111, 111, 108]⟩
def offS : ByteArray := ⟨#[111, 102, 102, 115, 101, 116]⟩
def nameS : ByteArray := ⟨#[95, 95, 110, 97, 109, 101, 95, 95]⟩
/-- The number of what is here, if it may be; and what is then ahead. -/
def takeN (row : List ByteArray) (may : List Int) (ts : List Tok) : Int := if may.contains (numIn row (hd ts)) = true then numIn row (hd ts) else 0
def takeR (row : List ByteArray) (may : List Int) (ts : List Tok) : List Tok := if may.contains (numIn row (hd ts)) = true then ts.tail else ts
def labC (c : Int) : Bool := letB c || digB c
def nameB (s : ByteArray) : Bool := decide (1 ≤ s.size) && decide (s.size ≤ 64) && (sInts s).all labC && !digB (byteAt s 0)
def lname (ts : List Tok) : Rs ByteArray := if (decide ((hd ts).1 = 3) && nameB (hd ts).2.2.1) = true then .ok (hd ts).2.2.1 ts.tail else fail ts
def moreR {α : Type} (step : α → List Tok → Rs α) (closes : ByteArray) : Nat → α → List Tok → Rs α
  | 0, _, _ => .out
  | f + 1, a, ts => if isB ⟨#[44]⟩ ts = true then (step a ts.tail).bind (moreR step closes f) else (need closes ts).bind fun _ r => .ok a r
def listR {α : Type} (step : α → List Tok → Rs α) (opens closes : ByteArray) (f : Nat) (a : α) (ts : List Tok) : Rs α :=
  (need opens ts).bind fun _ r => if isB closes r = true then .ok a r.tail else (step a r).bind (moreR step closes f)
def nstep (ns : List ByteArray) (ts : List Tok) : Rs (List ByteArray) := (lname ts).bind fun s r => .ok (ns ++ [s]) r
def groupR (f : Nat) (may : List Int) (ts : List Tok) : Rs (Int × List ByteArray) :=
  if takeN grpsR may ts = 0 then .ok (0, []) (takeR grpsR may ts) else (listR nstep ⟨#[40]⟩ ⟨#[41]⟩ f [] (takeR grpsR may ts)).bind fun ns r => .ok (takeN grpsR may ts, ns) r
def matB (m : Mt) : Bool := decide (1 ≤ m.1) && decide (m.1 ≤ 4) && nameB m.2.1 && decide (m.2.2.size ≤ 256)
def matsB (ms : List Mt) : Bool := decide (ms.length ≤ 8) && ms.all matB
def withR (ms : List Mt) (k : Int) (n : ByteArray) (ts : List Tok) : Rs (List Mt) :=
  if matsB (ms ++ [(k, n, (hd ts).2.2.1)]) = true then .ok (ms ++ [(k, n, (hd ts).2.2.1)]) ts.tail else .bad (hd ts).2.1 183
def questR (ts : List Tok) : Rs (Int × ByteArray) := (lname ts).bind fun s r =>
  (must (!decide (numIn kindsR (hd r) = 0)) r).bind fun _ _ => (must (decide ((hd r.tail).1 = 4)) r.tail).bind fun _ r2 => .ok (numIn kindsR (hd r), s) r2
def mstep (ms : List Mt) (ts : List Tok) : Rs (List Mt) := (questR ts).bind fun q r => withR ms q.1 q.2 r
def keptB (t : Tok) : Bool := !decide (numIn funcsR t = 0) || (!decide (numIn aggsR t = 0) || (!decide (numIn opsR t = 0) || (!decide (numIn grpsR t = 0) || (decide (t.2.2.1 = boolS) || decide (t.2.2.1 = offS)))))
def matchR (f : Nat) (ts : List Tok) : Rs (List Mt) :=
  if (decide ((hd ts).1 = 3) && !keptB (hd ts)) = true then
    (withR [] 1 nameS ts).bind fun ms r => if isB ⟨#[123]⟩ r = true then listR mstep ⟨#[123]⟩ ⟨#[125]⟩ f ms r else .ok ms r
  else listR mstep ⟨#[123]⟩ ⟨#[125]⟩ f [] ts
def spanT (ts : List Tok) : Rs Int := if (hd ts).1 = 2 then .ok (hd ts).2.2.2 ts.tail else fail ts
def widthR (ts : List Tok) : Rs (Int × Int) :=
  if isB ⟨#[91]⟩ ts = true then (spanT ts.tail).bind fun w r => (need ⟨#[93]⟩ r).bind fun _ r => .ok (3, w) r else .ok (2, 0) ts
def backR (ts : List Tok) : Rs Int := if isB offS ts = true then spanT ts.tail else .ok 0 ts
def selR (f : Nat) (ts : List Tok) : Rs (List Nd) :=
  (matchR f ts).bind fun ms r => (widthR r).bind fun kw r => (backR r).bind fun b r => .ok [⟨kw.1, 0, ⟨#[]⟩, ms, kw.2, b, 0, [], false, 0⟩] r
/-- The operations of each level. -/
def rowOps : Nat → List Int
  | 0 => [12]
  | 1 => [11, 13]
  | 2 => [5, 6, 7, 8, 9, 10]
  | 3 => [1, 2]
  | _ => [3, 4]
def boolN (op : Int) (ts : List Tok) : Bool := (decide (5 ≤ op) && decide (op ≤ 10)) && isB boolS ts
def boolR (op : Int) (ts : List Tok) : List Tok := if boolN op ts = true then ts.tail else ts
def negN : Nd := ⟨7, 0, ⟨#[]⟩, [], 0, 0, 0, [], false, 1⟩
def numN (t : ByteArray) : Nd := ⟨1, 0, t, [], 0, 0, 0, [], false, 0⟩
def callN (k : Int) : Nd := ⟨4, k, ⟨#[]⟩, [], 0, 0, 0, [], false, 1⟩
def aggN (k g : Int) (ns : List ByteArray) : Nd := ⟨5, k, ⟨#[]⟩, [], 0, 0, g, ns, false, 1⟩
def binN (k : Int) (b : Bool) (g : Int) (ns : List ByteArray) : Nd := ⟨6, k, ⟨#[]⟩, [], 0, 0, g, ns, b, 2⟩
/-- What stands behind a sign of which 64 may be open. -/
def nestR (sign : ByteArray) (nest : Nat) (part : Nat → List Tok → Rs (List Nd)) (ts : List Tok) : Rs (List Nd) :=
  (must (isB sign ts) ts).bind fun _ _ => if nest = 64 then .bad (hd ts).2.1 182 else part (nest + 1) ts.tail
def brackR (nest : Nat) (part : Nat → List Tok → Rs (List Nd)) (ts : List Tok) : Rs (List Nd) :=
  (nestR ⟨#[40]⟩ nest part ts).bind fun a r => (need ⟨#[41]⟩ r).bind fun _ r => .ok a r
def oneR (F : Nat) (nest : Nat) (part : Nat → List Tok → Rs (List Nd)) (ts : List Tok) : Rs (List Nd) :=
  if (hd ts).1 = 1 then .ok [numN (hd ts).2.2.1] ts.tail
  else if isB ⟨#[40]⟩ ts = true then brackR nest part ts
  else if numIn funcsR (hd ts) ≠ 0 then (brackR nest part ts.tail).bind fun a r => .ok (a ++ [callN (numIn funcsR (hd ts))]) r
  else if numIn aggsR (hd ts) ≠ 0 then (groupR F [1, 2] ts.tail).bind fun g r => (brackR nest part r).bind fun a r => .ok (a ++ [aggN (numIn aggsR (hd ts)) g.1 g.2]) r
  else selR F ts
/-- A level of the grammar (0 to 4: or, and, comparison, sum, term; 5: unary; 6: one; 7 to 11: what is behind the first part of a row). -/
def P : Nat → Nat → Nat → List Tok → Rs (List Nd)
  | 0, _, _, _ => .out
  | f + 1, lv, nest, ts =>
    if lv < 5 then (P f (lv + 1) nest ts).bind fun a r => (P f (lv + 7) nest r).bind fun b r => .ok (a ++ b) r
    else if lv = 5 then
      (if isB ⟨#[45]⟩ ts = true then (nestR ⟨#[45]⟩ nest (P f 5) ts).bind fun a r => .ok (a ++ [negN]) r else P f 6 nest ts)
    else if lv = 6 then oneR 5000 nest (P f 0) ts
    else if takeN opsR (rowOps (lv - 7)) ts = 0 then .ok [] ts
    else (groupR 5000 [3, 4] (boolR (takeN opsR (rowOps (lv - 7)) ts) (takeR opsR (rowOps (lv - 7)) ts))).bind fun g r =>
      (P f (lv - 6) nest r).bind fun a r2 => (P f lv nest r2).bind fun b r3 =>
        .ok (a ++ [binN (takeN opsR (rowOps (lv - 7)) ts) (boolN (takeN opsR (rowOps (lv - 7)) ts) (takeR opsR (rowOps (lv - 7)) ts)) g.1 g.2] ++ b) r3
/-- What Parse tells. -/
inductive Pr where
  | ok (ns : List Nd)
  | bad (p c : Int)
def endR (x : Rs (List Nd)) : Pr :=
  match x with
  | .ok a r => if (hd r).1 = 0 then .ok a else .bad (hd r).2.1 181
  | .bad p c => .bad p c
  | .out => .bad 0 0
def parseT (ts : List Tok) : Pr := endR (P (8 * ts.length + 8) 0 0 ts)
def parseR (s : ByteArray) : Pr :=
  match lexR s with
  | .ok ts => parseT ts
  | .bad p c => .bad (p : Int) c
end Go.Proofs.Ytnimdngiejcljaa
