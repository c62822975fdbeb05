/-
  Worlds that part in one block alone; no Go in sight. Numbers as bytes, and how they are taken from the left, as plain mathematics; no Go in sight.
-/
import Derived.Test.YtpmaiblgnblpeaaProg
import Derived.Test.YtpmaiblgnblpeaaPr01
namespace Go.Proofs.Ytpmaiblgnblpeaa
open Go.RowKit

/-- Nothing is other but what lies in block g, and new blocks. -/
def But (g : Nat) (w w' : World) : Prop := w'.os = w.os ∧ w'.tape = w.tape ∧ w'.output = w.output ∧ w.heap.size ≤ w'.heap.size ∧ ∀ k, k < w.heap.size → k ≠ g → w'.heap[k]? = w.heap[k]?
theorem But.refl (g : Nat) (w : World) : But g w w := ⟨rfl, rfl, rfl, Nat.le_refl _, fun _ _ _ => rfl⟩
theorem But.trans {g : Nat} {a b c : World} (h : But g a b) (k : But g b c) : But g a c :=
  ⟨k.1.trans h.1, k.2.1.trans h.2.1, k.2.2.1.trans h.2.2.1, Nat.le_trans h.2.2.2.1 k.2.2.2.1, fun i hi hn => (k.2.2.2.2 i (Nat.lt_of_lt_of_le hi h.2.2.2.1) hn).trans (h.2.2.2.2 i hi hn)⟩
theorem But.of {g : Nat} {w w' : World} (h : Below w.heap.size w w') : But g w w' := ⟨h.os, h.tape, h.output, h.size, fun k hk _ => h.block k hk⟩
theorem But.on {g : Nat} {a b c : World} (h : But g a b) (k : Below b.heap.size b c) : But g a c := h.trans (But.of k)
theorem But.set {g : Nat} {a b : World} (h : But g a b) (i : Nat) (v : Value) : But g a (b.setCell ⟨g, i, none⟩ v) :=
  h.trans ⟨rfl, rfl, rfl, Nat.le_of_eq (by simp [go_sem]), fun k _ hn => Below.heap_setCell _ _ _ _ hn⟩
theorem But.drewN {g : Nat} {a b : World} (h : But g a b) (n : Nat) : But g a (b.drewN n) := h
theorem But.cell {g : Nat} {w w' : World} (h : But g w w') {p : Addr} {v : Value} (hp : p.block ≠ g) (hc : w.cell? p = some v) : w'.cell? p = some v := by
  rw [World.cell?_of_block (w := w) (h.2.2.2.2 p.block (World.block_lt_of_cell? w _ hc) hp)]; exact hc
theorem But.below {g : Nat} {w0 w w' : World} (h : But g w w') (hb : Below w0.heap.size w0 w) (hg : w0.heap.size ≤ g) : Below w0.heap.size w0 w' :=
  ⟨h.1.trans hb.os, h.2.1.trans hb.tape, h.2.2.1.trans hb.output, Nat.le_trans hb.size h.2.2.2.1, fun k hk => (h.2.2.2.2 k (Nat.lt_of_lt_of_le hk hb.size) (by omega)).trans (hb.block k hk)⟩











end Go.Proofs.Ytpmaiblgnblpeaa

namespace Go.Proofs.Ytpmaiblgnblpeaa
open Go.RowKit

/-- A number's four bytes, the highest first; of eight. -/
def be4 (n : Int) : List Int := [n / 16777216 % 256, n / 65536 % 256, n / 256 % 256, n % 256]
def be8 (n : Int) : List Int := be4 (n / 4294967296) ++ be4 n
def v4 : List Int → Int
  | a :: b :: c :: d :: _ => ((a * 256 + b) * 256 + c) * 256 + d
  | _ => 0
def s64 (x : Int) : Int := if x < 9223372036854775808 then x else x - 18446744073709551616
def v8 (l : List Int) : Int := s64 (v4 l * 4294967296 + v4 (l.drop 4))
/-- Each is a byte. -/
def AreB (l : List Int) : Prop := ∀ x ∈ l, 0 ≤ x ∧ x < 256
theorem AreB.drop {l : List Int} (h : AreB l) (k : Nat) : AreB (l.drop k) := fun x hx => h x (List.mem_of_mem_drop hx)
theorem AreB.take {l : List Int} (h : AreB l) (k : Nat) : AreB (l.take k) := fun x hx => h x (List.mem_of_mem_take hx)
theorem AreB.app {l r : List Int} (h : AreB l) (k : AreB r) : AreB (l ++ r) := fun x hx => (List.mem_append.1 hx).elim (h x) (k x)
theorem be4_len (n : Int) : (be4 n).length = 4 := rfl
theorem be8_len (n : Int) : (be8 n).length = 8 := rfl
theorem be4_areB (n : Int) : AreB (be4 n) := fun x hx => by
  simp [be4] at hx
  omega
theorem be8_areB (n : Int) : AreB (be8 n) := (be4_areB _).app (be4_areB _)
theorem v4_be4 (n : Int) (r : List Int) : v4 (be4 n ++ r) = n % 4294967296 := by
  simp only [be4, List.cons_append, List.nil_append, v4]
  omega
theorem four_parts {l : List Int} (h : 4 ≤ l.length) : ∃ a b c d r, l = a :: b :: c :: d :: r := by
  match l, h with
  | a :: b :: c :: d :: r, _ => exact ⟨a, b, c, d, r, rfl⟩
theorem be4_v4 {l : List Int} (h : 4 ≤ l.length) (hb : AreB l) : l = be4 (v4 l) ++ l.drop 4 ∧ 0 ≤ v4 l ∧ v4 l < 4294967296 := by
  obtain ⟨a, b, c, d, r, rfl⟩ := four_parts h
  have h0 := hb a (by simp)
  have h1 := hb b (by simp)
  have h2 := hb c (by simp)
  have h3 := hb d (by simp)
  simp only [v4, be4, List.cons_append, List.nil_append, List.drop_succ_cons, List.drop_zero, List.cons.injEq, and_true]
  omega
theorem v8_be8 (n : Int) (r : List Int) (h0 : -9223372036854775808 ≤ n) (h1 : n < 9223372036854775808) : v8 (be8 n ++ r) = n := by
  have e : (be8 n ++ r).drop 4 = be4 n ++ r := rfl
  unfold v8
  rw [e, v4_be4]
  unfold be8
  rw [List.append_assoc, v4_be4]
  unfold s64
  split <;> omega
theorem be8_v8 {l : List Int} (h : 8 ≤ l.length) (hb : AreB l) : l = be8 (v8 l) ++ l.drop 8 ∧ -9223372036854775808 ≤ v8 l ∧ v8 l < 9223372036854775808 := by
  obtain ⟨e1, a1, a2⟩ := be4_v4 (l := l) (by omega) hb
  obtain ⟨e2, b1, b2⟩ := be4_v4 (l := l.drop 4) (by simp; omega) (hb.drop 4)
  have k1 : v8 l / 4294967296 % 4294967296 = v4 l := by
    unfold v8 s64
    split <;> omega
  have k2 : v8 l % 4294967296 = v4 (l.drop 4) := by
    unfold v8 s64
    split <;> omega
  have m4 : ∀ x : Int, be4 (x % 4294967296) = be4 x := fun x => by
    simp only [be4, List.cons.injEq, and_true]
    omega
  refine ⟨?_, ?_, ?_⟩
  · unfold be8
    rw [← m4 (v8 l / 4294967296), ← m4 (v8 l), k1, k2, List.append_assoc, show l.drop 8 = (l.drop 4).drop 4 by rw [List.drop_drop], ← e2]
    exact e1
  · unfold v8 s64
    split <;> omega
  · unfold v8 s64
    split <;> omega
/-- The sum of bytes. -/
def sumB (l : List Int) : Int := l.foldl (fun s b => (31 * s + b) % 4294967296) 0
/-- A text's bytes. -/
def strB (s : ByteArray) : List Int := s.data.toList.map fun c => (c.toNat : Int)
def textB (s : ByteArray) : List Int := be4 s.size ++ strB s
def symB (x : Sym) : List Int := textB x.1 ++ be4 x.2.1 ++ be4 x.2.2
def relB (x : Rel) : List Int := be4 x.1 ++ be4 x.2
def bodyB (nm : ByteArray) (code : List Int) (dA : Int) (data : List Int) (ss : List Sym) (rs : List Rel) : List Int :=
  [80, 76, 79, 49] ++ textB nm ++ be4 code.length ++ code.flatMap be4 ++ be4 dA ++ be4 data.length ++ data.flatMap be8 ++ be4 ss.length ++ ss.flatMap symB ++ be4 rs.length ++ rs.flatMap relB
def bytesB (nm : ByteArray) (code : List Int) (dA : Int) (data : List Int) (ss : List Sym) (rs : List Rel) : List Int :=
  bodyB nm code dA data ss rs ++ be4 (sumB (bodyB nm code dA data ss rs))
/-- Where a taker stands, and what is wrong. -/
structure Tk where
  pos : Nat
  bad : Int
  place : Int
def tWrong (t : Tk) (e p : Int) : Tk := if t.bad = 0 then ⟨t.pos, e, p⟩ else t
def tHas (N : Nat) (t : Tk) (n : Int) : Tk := if t.bad = 0 ∧ (N : Int) - t.pos < n then ⟨t.pos, 27, N⟩ else t
def tFour (b : List Int) (t : Tk) : Int × Tk := if (tHas b.length t 4).bad = 0 then (v4 (b.drop t.pos), ⟨t.pos + 4, 0, t.place⟩) else (0, tHas b.length t 4)
def tEight (b : List Int) (t : Tk) : Int × Tk := if (tHas b.length t 8).bad = 0 then (v8 (b.drop t.pos), ⟨t.pos + 8, 0, t.place⟩) else (0, tHas b.length t 8)
def tCount (b : List Int) (most : Int) (t : Tk) : Int × Tk :=
  if (tFour b t).2.bad = 0 then (if most < (tFour b t).1 then (0, ⟨t.pos + 4, 27, t.pos⟩) else tFour b t) else (0, (tFour b t).2)
def tBegin (b want : List Int) : Tk := match (List.range want.length).find? (fun i => decide (b.length ≤ i) || nth b i != nth want i) with
  | some i => ⟨want.length, 27, i⟩
  | none => ⟨want.length, 0, 0⟩
def strOf (l : List Int) : ByteArray := ⟨(l.map fun x => UInt8.ofNat x.toNat).toArray⟩
def tName (b : List Int) (t : Tk) : ByteArray × Tk :=
  if (tHas b.length (tCount b 24 t).2 (tCount b 24 t).1).bad = 0 then (strOf ((b.drop (tCount b 24 t).2.pos).take (tCount b 24 t).1.toNat), ⟨(tCount b 24 t).2.pos + (tCount b 24 t).1.toNat, 0, (tCount b 24 t).2.place⟩) else (⟨#[]⟩, tHas b.length (tCount b 24 t).2 (tCount b 24 t).1)
def tList {α : Type} (f : Tk → α × Tk) : Nat → Tk → List α × Tk
  | 0, t => ([], t)
  | n + 1, t => if t.bad = 0 then ((f t).1 :: (tList f n (f t).2).1, (tList f n (f t).2).2) else ([], t)
def great : Int := 2147483647
def tSym (b : List Int) (t : Tk) : Sym × Tk :=
  (((tName b t).1, (tCount b 3 (tName b t).2).1, (tCount b great (tCount b 3 (tName b t).2).2).1), (tCount b great (tCount b 3 (tName b t).2).2).2)
def tRel (b : List Int) (t : Tk) : Rel × Tk := (((tCount b great t).1, (tCount b great (tCount b great t).2).1), (tCount b great (tCount b great t).2).2)
def tEnd (b : List Int) (t : Tk) : Tk :=
  if (tFour b t).2.bad = 0 then (if t.pos + 4 < b.length then ⟨t.pos + 4, 27, t.pos + 4⟩ else if (tFour b t).1 = sumB (b.take t.pos) then (tFour b t).2 else ⟨t.pos + 4, 28, t.pos⟩) else (tFour b t).2
/-- All that is taken of an object's bytes. -/
structure Took where
  nm : ByteArray
  code : List Int
  dA : Int
  data : List Int
  ss : List Sym
  rs : List Rel
  t : Tk
def tCode (b : List Int) : List Int × Tk := tList (tFour b) (tCount b 16384 (tName b (tBegin b [80, 76, 79, 49])).2).1.toNat (tCount b 16384 (tName b (tBegin b [80, 76, 79, 49])).2).2
def tDat (b : List Int) : Int × Tk := tCount b great (tCode b).2
def tData (b : List Int) : List Int × Tk := tList (tEight b) (tCount b 4096 (tDat b).2).1.toNat (tCount b 4096 (tDat b).2).2
def tSyms (b : List Int) : List Sym × Tk := tList (tSym b) (tCount b 256 (tData b).2).1.toNat (tCount b 256 (tData b).2).2
def tRels (b : List Int) : List Rel × Tk := tList (tRel b) (tCount b (tCode b).1.length (tSyms b).2).1.toNat (tCount b (tCode b).1.length (tSyms b).2).2
def took (b : List Int) : Took := ⟨(tName b (tBegin b [80, 76, 79, 49])).1, (tCode b).1, (tDat b).1, (tData b).1, (tSyms b).1, (tRels b).1, tEnd b (tRels b).2⟩












end Go.Proofs.Ytpmaiblgnblpeaa
