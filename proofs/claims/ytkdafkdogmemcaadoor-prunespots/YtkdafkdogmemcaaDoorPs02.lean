/-
  Numbers as bytes, and how they are taken from the left, as plain mathematics; no Go in sight. What is taken of bytes is written as they were, as plain mathematics; no Go in sight. What is written is read as it, and no single byte can be changed unnoticed, as plain mathematics; no Go in sight. What a taker takes when all is well, and when not; no Go in sight.
-/
import Derived.Test.YtkdafkdogmemcaaDoorProg
import Derived.Test.YtkdafkdogmemcaaDoorPs01
namespace Go.Proofs.YtkdafkdogmemcaaDoor
open Go.RowKit

/-- A number's four bytes, the highest first; of eight. -/
def be4 (n : Int) : List Int := [n / 16777216 % 256, n / 65536 % 256, n / 256 % 256, n % 256]
def be8 (n : Int) : List Int := be4 (n / 4294967296) ++ be4 n
def v4 : List Int → Int
  | a :: b :: c :: d :: _ => ((a * 256 + b) * 256 + c) * 256 + d
  | _ => 0
def s64 (x : Int) : Int := if x < 9223372036854775808 then x else x - 18446744073709551616
def v8 (l : List Int) : Int := s64 (v4 l * 4294967296 + v4 (l.drop 4))
/-- Each is a byte. -/
def AreB (l : List Int) : Prop := ∀ x ∈ l, 0 ≤ x ∧ x < 256
theorem AreB.drop {l : List Int} (h : AreB l) (k : Nat) : AreB (l.drop k) := fun x hx => h x (List.mem_of_mem_drop hx)
theorem AreB.take {l : List Int} (h : AreB l) (k : Nat) : AreB (l.take k) := fun x hx => h x (List.mem_of_mem_take hx)
theorem AreB.app {l r : List Int} (h : AreB l) (k : AreB r) : AreB (l ++ r) := fun x hx => (List.mem_append.1 hx).elim (h x) (k x)
theorem be4_len (n : Int) : (be4 n).length = 4 := rfl
theorem be8_len (n : Int) : (be8 n).length = 8 := rfl
theorem be4_areB (n : Int) : AreB (be4 n) := fun x hx => by
  simp [be4] at hx
  omega
theorem be8_areB (n : Int) : AreB (be8 n) := (be4_areB _).app (be4_areB _)
theorem v4_be4 (n : Int) (r : List Int) : v4 (be4 n ++ r) = n % 4294967296 := by
  simp only [be4, List.cons_append, List.nil_append, v4]
  omega
theorem four_parts {l : List Int} (h : 4 ≤ l.length) : ∃ a b c d r, l = a :: b :: c :: d :: r := by
  match l, h with
  | a :: b :: c :: d :: r, _ => exact ⟨a, b, c, d, r, rfl⟩
theorem be4_v4 {l : List Int} (h : 4 ≤ l.length) (hb : AreB l) : l = be4 (v4 l) ++ l.drop 4 ∧ 0 ≤ v4 l ∧ v4 l < 4294967296 := by
  obtain ⟨a, b, c, d, r, rfl⟩ := four_parts h
  have h0 := hb a (by simp)
  have h1 := hb b (by simp)
  have h2 := hb c (by simp)
  have h3 := hb d (by simp)
  simp only [v4, be4, List.cons_append, List.nil_append, List.drop_succ_cons, List.drop_zero, List.cons.injEq, and_true]
  omega
theorem v8_be8 (n : Int) (r : List Int) (h0 : -9223372036854775808 ≤ n) (h1 : n < 9223372036854775808) : v8 (be8 n ++ r) = n := by
  have e : (be8 n ++ r).drop 4 = be4 n ++ r := rfl
  unfold v8
  rw [e, v4_be4]
  unfold be8
  rw [List.append_assoc, v4_be4]
  unfold s64
  split <;> omega
theorem be8_v8 {l : List Int} (h : 8 ≤ l.length) (hb : AreB l) : l = be8 (v8 l) ++ l.drop 8 ∧ -9223372036854775808 ≤ v8 l ∧ v8 l < 9223372036854775808 := by
  obtain ⟨e1, a1, a2⟩ := be4_v4 (l := l) (by omega) hb
  obtain ⟨e2, b1, b2⟩ := be4_v4 (l := l.drop 4) (by simp; omega) (hb.drop 4)
  have k1 : v8 l / 4294967296 % 4294967296 = v4 l := by
    unfold v8 s64
    split <;> omega
  have k2 : v8 l % 4294967296 = v4 (l.drop 4) := by
    unfold v8 s64
    split <;> omega
  have m4 : ∀ x : Int, be4 (x % 4294967296) = be4 x := fun x => by
    simp only [be4, List.cons.injEq, and_true]
    omega
  refine ⟨?_, ?_, ?_⟩
  · unfold be8
    rw [← m4 (v8 l / 4294967296), ← m4 (v8 l), k1, k2, List.append_assoc, show l.drop 8 = (l.drop 4).drop 4 by rw [List.drop_drop], ← e2]
    exact e1
  · unfold v8 s64
    split <;> omega
  · unfold v8 s64
    split <;> omega
/-- The sum of bytes. -/
def sumB (l : List Int) : Int := l.foldl (fun s b => (31 * s + b) % 4294967296) 0
/-- A text's bytes. -/
def strB (s : ByteArray) : List Int := s.data.toList.map fun c => (c.toNat : Int)
def textB (s : ByteArray) : List Int := be4 s.size ++ strB s
def symB (x : Sym) : List Int := textB x.1 ++ be4 x.2.1 ++ be4 x.2.2
def relB (x : Rel) : List Int := be4 x.1 ++ be4 x.2
def bodyB (nm : ByteArray) (code : List Int) (dA : Int) (data : List Int) (ss : List Sym) (rs : List Rel) : List Int :=
  [80, 76, 79, 49] ++ textB nm ++ be4 code.length ++ code.flatMap be4 ++ be4 dA ++ be4 data.length ++ data.flatMap be8 ++ be4 ss.length ++ ss.flatMap symB ++ be4 rs.length ++ rs.flatMap relB
def bytesB (nm : ByteArray) (code : List Int) (dA : Int) (data : List Int) (ss : List Sym) (rs : List Rel) : List Int :=
  bodyB nm code dA data ss rs ++ be4 (sumB (bodyB nm code dA data ss rs))
/-- Where a taker stands, and what is wrong. -/
structure Tk where
  pos : Nat
  bad : Int
  place : Int
def tWrong (t : Tk) (e p : Int) : Tk := if t.bad = 0 then ⟨t.pos, e, p⟩ else t
def tHas (N : Nat) (t : Tk) (n : Int) : Tk := if t.bad = 0 ∧ (N : Int) - t.pos < n then ⟨t.pos, 27, N⟩ else t
def tFour (b : List Int) (t : Tk) : Int × Tk := if (tHas b.length t 4).bad = 0 then (v4 (b.drop t.pos), ⟨t.pos + 4, 0, t.place⟩) else (0, tHas b.length t 4)
def tEight (b : List Int) (t : Tk) : Int × Tk := if (tHas b.length t 8).bad = 0 then (v8 (b.drop t.pos), ⟨t.pos + 8, 0, t.place⟩) else (0, tHas b.length t 8)
def tCount (b : List Int) (most : Int) (t : Tk) : Int × Tk :=
  if (tFour b t).2.bad = 0 then (if most < (tFour b t).1 then (0, ⟨t.pos + 4, 27, t.pos⟩) else tFour b t) else (0, (tFour b t).2)
def tBegin (b want : List Int) : Tk := match (List.range want.length).find? (fun i => decide (b.length ≤ i) || nth b i != nth want i) with
  | some i => ⟨want.length, 27, i⟩
  | none => ⟨want.length, 0, 0⟩
def strOf (l : List Int) : ByteArray := ⟨(l.map fun x => UInt8.ofNat x.toNat).toArray⟩
def tName (b : List Int) (t : Tk) : ByteArray × Tk :=
  if (tHas b.length (tCount b 24 t).2 (tCount b 24 t).1).bad = 0 then (strOf ((b.drop (tCount b 24 t).2.pos).take (tCount b 24 t).1.toNat), ⟨(tCount b 24 t).2.pos + (tCount b 24 t).1.toNat, 0, (tCount b 24 t).2.place⟩) else (⟨#[]⟩, tHas b.length (tCount b 24 t).2 (tCount b 24 t).1)
def tList {α : Type} (f : Tk → α × Tk) : Nat → Tk → List α × Tk
  | 0, t => ([], t)
  | n + 1, t => if t.bad = 0 then ((f t).1 :: (tList f n (f t).2).1, (tList f n (f t).2).2) else ([], t)
def great : Int := 2147483647
def tSym (b : List Int) (t : Tk) : Sym × Tk :=
  (((tName b t).1, (tCount b 3 (tName b t).2).1, (tCount b great (tCount b 3 (tName b t).2).2).1), (tCount b great (tCount b 3 (tName b t).2).2).2)
def tRel (b : List Int) (t : Tk) : Rel × Tk := (((tCount b great t).1, (tCount b great (tCount b great t).2).1), (tCount b great (tCount b great t).2).2)
def tEnd (b : List Int) (t : Tk) : Tk :=
  if (tFour b t).2.bad = 0 then (if t.pos + 4 < b.length then ⟨t.pos + 4, 27, t.pos + 4⟩ else if (tFour b t).1 = sumB (b.take t.pos) then (tFour b t).2 else ⟨t.pos + 4, 28, t.pos⟩) else (tFour b t).2
/-- All that is taken of an object's bytes. -/
structure Took where
  nm : ByteArray
  code : List Int
  dA : Int
  data : List Int
  ss : List Sym
  rs : List Rel
  t : Tk
def tCode (b : List Int) : List Int × Tk := tList (tFour b) (tCount b 16384 (tName b (tBegin b [80, 76, 79, 49])).2).1.toNat (tCount b 16384 (tName b (tBegin b [80, 76, 79, 49])).2).2
def tDat (b : List Int) : Int × Tk := tCount b great (tCode b).2
def tData (b : List Int) : List Int × Tk := tList (tEight b) (tCount b 4096 (tDat b).2).1.toNat (tCount b 4096 (tDat b).2).2
def tSyms (b : List Int) : List Sym × Tk := tList (tSym b) (tCount b 256 (tData b).2).1.toNat (tCount b 256 (tData b).2).2
def tRels (b : List Int) : List Rel × Tk := tList (tRel b) (tCount b (tCode b).1.length (tSyms b).2).1.toNat (tCount b (tCode b).1.length (tSyms b).2).2
def took (b : List Int) : Took := ⟨(tName b (tBegin b [80, 76, 79, 49])).1, (tCode b).1, (tDat b).1, (tData b).1, (tSyms b).1, (tRels b).1, tEnd b (tRels b).2⟩









end Go.Proofs.YtkdafkdogmemcaaDoor

namespace Go.Proofs.YtkdafkdogmemcaaDoor
open Go.RowKit

/-- The bytes e lie between where t and t' stand. -/
def Ate (b : List Int) (t t' : Tk) (e : List Int) : Prop := t.bad = 0 ∧ t'.pos = t.pos + e.length ∧ b.drop t.pos = e ++ b.drop t'.pos
theorem Ate.trans {b : List Int} {t t' t'' : Tk} {e e' : List Int} (h : Ate b t t' e) (k : Ate b t' t'' e') : Ate b t t'' (e ++ e') :=
  ⟨h.1, by rw [k.2.1, h.2.1, List.length_append]; omega, by rw [h.2.2, k.2.2, List.append_assoc]⟩
theorem Ate.nil {b : List Int} {t : Tk} (h : t.bad = 0) : Ate b t t [] := ⟨h, rfl, rfl⟩
theorem tHas_ok {N : Nat} {t : Tk} {n : Int} (h : (tHas N t n).bad = 0) : t.bad = 0 ∧ n ≤ (N : Int) - t.pos ∧ tHas N t n = t := by
  unfold tHas at h ⊢
  split at h
  · cases h
  · next hc => exact ⟨h, by omega, if_neg hc⟩
theorem tFour_ok {b : List Int} {t : Tk} (hb : AreB b) (h : (tFour b t).2.bad = 0) : Ate b t (tFour b t).2 (be4 (tFour b t).1) ∧ 0 ≤ (tFour b t).1 ∧ (tFour b t).1 < 4294967296 := by
  unfold tFour at h ⊢
  split at h
  · next hc =>
    obtain ⟨h0, h1, _⟩ := tHas_ok hc
    rw [if_pos hc]
    have hl : 4 ≤ (b.drop t.pos).length := by simp; omega
    obtain ⟨e, a1, a2⟩ := be4_v4 hl (hb.drop _)
    refine ⟨⟨h0, rfl, ?_⟩, a1, a2⟩
    rw [List.drop_drop] at e
    exact e
  · next hc => exact absurd h hc
theorem tEight_ok {b : List Int} {t : Tk} (hb : AreB b) (h : (tEight b t).2.bad = 0) : Ate b t (tEight b t).2 (be8 (tEight b t).1) ∧ -9223372036854775808 ≤ (tEight b t).1 ∧ (tEight b t).1 < 9223372036854775808 := by
  unfold tEight at h ⊢
  split at h
  · next hc =>
    obtain ⟨h0, h1, _⟩ := tHas_ok hc
    rw [if_pos hc]
    have hl : 8 ≤ (b.drop t.pos).length := by simp; omega
    obtain ⟨e, a1, a2⟩ := be8_v8 hl (hb.drop _)
    refine ⟨⟨h0, rfl, ?_⟩, a1, a2⟩
    rw [List.drop_drop] at e
    exact e
  · next hc => exact absurd h hc
theorem tCount_ok {b : List Int} {m : Int} {t : Tk} (hb : AreB b) (h : (tCount b m t).2.bad = 0) : Ate b t (tCount b m t).2 (be4 (tCount b m t).1) ∧ 0 ≤ (tCount b m t).1 ∧ (tCount b m t).1 ≤ m := by
  unfold tCount at h ⊢
  split at h
  · next hc =>
    rw [if_pos hc]
    split at h
    · cases h
    · next hm =>
      rw [if_neg hm]
      obtain ⟨a, b1, _⟩ := tFour_ok hb hc
      exact ⟨a, b1, by omega⟩
  · next hc => exact absurd h hc
theorem tBegin_ok {b : List Int} (h : (tBegin b [80, 76, 79, 49]).bad = 0) : (tBegin b [80, 76, 79, 49]).pos = 4 ∧ b = [80, 76, 79, 49] ++ b.drop 4 := by
  unfold tBegin at h ⊢
  split at h
  · cases h
  · next hn =>
    refine ⟨rfl, ?_⟩
    rw [List.find?_eq_none] at hn
    have k : ∀ i, i < 4 → i < b.length ∧ nth b i = nth [80, 76, 79, 49] i := fun i hi => by
      have := hn i (by simpa using hi)
      simp at this
      exact ⟨by omega, this.2⟩
    obtain ⟨l0, e0⟩ := k 0 (by omega)
    obtain ⟨l1, e1⟩ := k 1 (by omega)
    obtain ⟨l2, e2⟩ := k 2 (by omega)
    obtain ⟨l3, e3⟩ := k 3 (by omega)
    obtain ⟨x, y, z, u, r, rfl⟩ := four_parts (l := b) (by omega)
    simp [nth] at e0 e1 e2 e3
    subst e0 e1 e2 e3
    rfl
theorem byte_back {x : Int} (h : 0 ≤ x ∧ x < 256) : ((UInt8.ofNat x.toNat).toNat : Int) = x := by
  rw [UInt8.toNat_ofNat']
  omega
theorem strOf_size (l : List Int) : (strOf l).size = l.length := by simp [strOf, ByteArray.size]
theorem strB_of {l : List Int} (h : AreB l) : strB (strOf l) = l := by
  unfold strB strOf
  simp only [List.map_map]
  rw [show l = l.map id by simp]
  simp only [List.map_map]
  apply List.map_congr_left
  intro x hx
  simp only [Function.comp, id]
  exact byte_back (h x hx)
theorem tName_ok {b : List Int} {t : Tk} (hb : AreB b) (h : (tName b t).2.bad = 0) : Ate b t (tName b t).2 (textB (tName b t).1) ∧ (tName b t).1.size ≤ 24 := by
  unfold tName at h ⊢
  split at h
  · next hc =>
    rw [if_pos hc]
    obtain ⟨h0, h1, _⟩ := tHas_ok hc
    obtain ⟨a, b1, b2⟩ := tCount_ok hb h0
    generalize (tCount b 24 t).1 = n at *
    generalize (tCount b 24 t).2 = t2 at *
    have hl : n.toNat ≤ (b.drop t2.pos).length := by simp; omega
    have ht : ((b.drop t2.pos).take n.toNat).length = n.toNat := by rw [List.length_take]; omega
    have hs : (strOf ((b.drop t2.pos).take n.toNat)).size = n.toNat := by rw [strOf_size, ht]
    refine ⟨?_, by simp only [hs]; omega⟩
    unfold textB
    simp only [hs]
    rw [show ((n.toNat : Nat) : Int) = n by omega]
    refine a.trans ⟨h0, ?_, ?_⟩
    · rw [strB_of ((hb.drop _).take _), ht]
    · rw [strB_of ((hb.drop _).take _), ← List.drop_drop, List.take_append_drop]
  · next hc => exact absurd h hc
theorem tList_ok {α : Type} {b : List Int} {f : Tk → α × Tk} {enc : α → List Int} {P : α → Prop} (hf : ∀ t, (f t).2.bad = 0 → Ate b t (f t).2 (enc (f t).1) ∧ P (f t).1) :
    ∀ (n : Nat) (t : Tk), (tList f n t).2.bad = 0 → Ate b t (tList f n t).2 ((tList f n t).1.flatMap enc) ∧ (tList f n t).1.length = n ∧ ∀ x ∈ (tList f n t).1, P x
  | 0, t, h => ⟨Ate.nil h, rfl, fun x hx => by cases hx⟩
  | n + 1, t, h => by
    rw [tList] at h ⊢
    split at h
    · next hc =>
      rw [if_pos hc]
      obtain ⟨a, l, p⟩ := tList_ok hf n _ h
      obtain ⟨a1, p1⟩ := hf t a.1
      refine ⟨?_, by simp [l], ?_⟩
      · simp only [List.flatMap_cons]
        exact a1.trans a
      · intro x hx
        rcases List.mem_cons.1 hx with rfl | hx
        · exact p1
        · exact p x hx
    · next hc => exact absurd h hc
def SymFit (x : Sym) : Prop := x.1.size ≤ 24 ∧ 0 ≤ x.2.1 ∧ x.2.1 ≤ 3 ∧ 0 ≤ x.2.2 ∧ x.2.2 ≤ great
def RelFit (x : Rel) : Prop := 0 ≤ x.1 ∧ x.1 ≤ great ∧ 0 ≤ x.2 ∧ x.2 ≤ great
theorem tSym_ok {b : List Int} {t : Tk} (hb : AreB b) (h : (tSym b t).2.bad = 0) : Ate b t (tSym b t).2 (symB (tSym b t).1) ∧ SymFit (tSym b t).1 := by
  unfold tSym at h ⊢
  obtain ⟨a3, p3, q3⟩ := tCount_ok hb h
  obtain ⟨a2, p2, q2⟩ := tCount_ok hb a3.1
  obtain ⟨a1, p1⟩ := tName_ok hb a2.1
  exact ⟨(a1.trans a2).trans a3, p1, p2, q2, p3, q3⟩
theorem tRel_ok {b : List Int} {t : Tk} (hb : AreB b) (h : (tRel b t).2.bad = 0) : Ate b t (tRel b t).2 (relB (tRel b t).1) ∧ RelFit (tRel b t).1 := by
  unfold tRel at h ⊢
  obtain ⟨a2, p2, q2⟩ := tCount_ok hb h
  obtain ⟨a1, p1, q1⟩ := tCount_ok hb a2.1
  exact ⟨a1.trans a2, p1, q1, p2, q2⟩
theorem tEnd_ok {b : List Int} {t : Tk} (hb : AreB b) (h : (tEnd b t).bad = 0) : t.bad = 0 ∧ b.drop t.pos = be4 (sumB (b.take t.pos)) ∧ b.length = t.pos + 4 := by
  unfold tEnd at h
  split at h
  · next hc =>
    split at h
    · cases h
    · next h1 =>
      split at h
      · next h2 =>
        obtain ⟨a, _, _⟩ := tFour_ok hb hc
        have hp : (tFour b t).2.pos = t.pos + 4 := a.2.1
        have e := a.2.2
        rw [hp, List.drop_eq_nil_of_le (show b.length ≤ t.pos + 4 by omega), List.append_nil, h2] at e
        have hl := congrArg List.length e
        rw [List.length_drop, be4_len] at hl
        exact ⟨a.1, e, by omega⟩
      · cases h
  · next hc => exact absurd h hc
theorem take_two {b p e : List Int} {P : Nat} (h1 : b = p ++ b.drop p.length) (h2 : b.drop p.length = e ++ b.drop P) (h3 : P = p.length + e.length) : b.take P = p ++ e := by
  have h : b = (p ++ e) ++ b.drop P := by rw [List.append_assoc, ← h2]; exact h1
  have h' : b.take P = ((p ++ e) ++ b.drop P).take P := congrArg (List.take P) h
  rw [h']
  exact List.take_left' (by rw [List.length_append, h3])
/-- What is taken whole is written as it was. -/
theorem took_write {b : List Int} (hb : AreB b) (h : (took b).t.bad = 0) :
    b = bytesB (took b).nm (took b).code (took b).dA (took b).data (took b).ss (took b).rs ∧
    (took b).nm.size ≤ 24 ∧ (took b).code.length ≤ 16384 ∧ (∀ x ∈ (took b).code, 0 ≤ x ∧ x < 4294967296) ∧ (0 ≤ (took b).dA ∧ (took b).dA ≤ great) ∧ (took b).data.length ≤ 4096 ∧
    (∀ x ∈ (took b).data, -9223372036854775808 ≤ x ∧ x < 9223372036854775808) ∧ (took b).ss.length ≤ 256 ∧ (∀ x ∈ (took b).ss, SymFit x) ∧ (took b).rs.length ≤ (took b).code.length ∧ ∀ x ∈ (took b).rs, RelFit x := by
  obtain ⟨hz, hd, hl⟩ := tEnd_ok hb (show (tEnd b (tRels b).2).bad = 0 from h)
  obtain ⟨ar, lr, pr⟩ := tList_ok (enc := relB) (P := RelFit) (fun t ht => tRel_ok hb ht) _ _ hz
  obtain ⟨anr, nr0, nr1⟩ := tCount_ok hb ar.1
  obtain ⟨asy, ls, ps⟩ := tList_ok (enc := symB) (P := SymFit) (fun t ht => tSym_ok hb ht) _ _ anr.1
  obtain ⟨ans, ns0, ns1⟩ := tCount_ok hb asy.1
  obtain ⟨ad, ld, pd⟩ := tList_ok (enc := be8) (P := fun x => -9223372036854775808 ≤ x ∧ x < 9223372036854775808) (fun t ht => tEight_ok hb ht) _ _ ans.1
  obtain ⟨and', nd0, nd1⟩ := tCount_ok hb ad.1
  obtain ⟨adA, d0, d1⟩ := tCount_ok hb and'.1
  obtain ⟨ac, lc, pc⟩ := tList_ok (enc := be4) (P := fun x => 0 ≤ x ∧ x < 4294967296) (fun t ht => tFour_ok hb ht) _ _ adA.1
  obtain ⟨anc, nc0, nc1⟩ := tCount_ok hb ac.1
  obtain ⟨an, ln⟩ := tName_ok hb anc.1
  obtain ⟨bp, be⟩ := tBegin_ok an.1
  have all := ((((((((an.trans anc).trans ac).trans adA).trans and').trans ad).trans ans).trans asy).trans anr).trans ar
  have lc' : (took b).code.length = (tCount b 16384 (tName b (tBegin b [80, 76, 79, 49])).2).1.toNat := lc
  have ld' : (took b).data.length = (tCount b 4096 (tDat b).2).1.toNat := ld
  have ls' : (took b).ss.length = (tCount b 256 (tData b).2).1.toNat := ls
  have lr' : (took b).rs.length = (tCount b (tCode b).1.length (tSyms b).2).1.toNat := lr
  have ec : ((took b).code.length : Int) = (tCount b 16384 (tName b (tBegin b [80, 76, 79, 49])).2).1 := by omega
  have ed : ((took b).data.length : Int) = (tCount b 4096 (tDat b).2).1 := by omega
  have es : ((took b).ss.length : Int) = (tCount b 256 (tData b).2).1 := by omega
  have er : ((took b).rs.length : Int) = (tCount b (tCode b).1.length (tSyms b).2).1 := by omega
  have hbody : b.take (tRels b).2.pos = bodyB (took b).nm (took b).code (took b).dA (took b).data (took b).ss (took b).rs := by
    have e4 := all.2.2
    have hp := all.2.1
    rw [bp] at e4 hp
    have key := take_two (p := [80, 76, 79, 49]) be e4 hp
    unfold bodyB
    rw [ec, ed, es, er]
    refine Eq.trans key ?_
    simp only [List.append_assoc]
    rfl
  refine ⟨?_, ln, by omega, pc, ⟨d0, d1⟩, by omega, pd, by omega, ps, ?_, pr⟩
  · unfold bytesB
    rw [← hbody]
    have := List.take_append_drop (tRels b).2.pos b
    rw [hd] at this
    exact this.symm
  · have : (took b).code.length = (tCode b).1.length := rfl
    omega









end Go.Proofs.YtkdafkdogmemcaaDoor

namespace Go.Proofs.YtkdafkdogmemcaaDoor
open Go.RowKit

/-- What is left from where t stands. -/
def Rem (b : List Int) (t : Tk) (r : List Int) : Prop := t.bad = 0 ∧ t.pos ≤ b.length ∧ b.drop t.pos = r
theorem Rem.len {b : List Int} {t : Tk} {r : List Int} (h : Rem b t r) : b.length = t.pos + r.length := by
  have := congrArg List.length h.2.2
  rw [List.length_drop] at this
  have := h.2.1
  omega
theorem Rem.on {b : List Int} {t : Tk} {e r : List Int} (h : Rem b t (e ++ r)) (p : Int) : Rem b ⟨t.pos + e.length, 0, p⟩ r := by
  have hl := h.len
  rw [List.length_append] at hl
  refine ⟨rfl, by simp only; omega, ?_⟩
  simp only
  rw [← List.drop_drop, h.2.2]
  exact List.drop_left
theorem tHas_yes {N : Nat} {t : Tk} {n : Int} (h : n ≤ (N : Int) - t.pos) : tHas N t n = t := by
  unfold tHas
  rw [if_neg (by omega)]
theorem four_rem {b : List Int} {t : Tk} {r : List Int} {n : Int} (h0 : 0 ≤ n) (h1 : n < 4294967296) (h : Rem b t (be4 n ++ r)) : tFour b t = (n, ⟨t.pos + 4, 0, t.place⟩) ∧ Rem b (tFour b t).2 r := by
  have hl := h.len
  rw [List.length_append, be4_len] at hl
  have e : tFour b t = (n, ⟨t.pos + 4, 0, t.place⟩) := by
    unfold tFour
    rw [tHas_yes (by omega), if_pos h.1, h.2.2, v4_be4]
    rw [Int.emod_eq_of_lt h0 h1]
  refine ⟨e, ?_⟩
  rw [e]
  exact h.on t.place
theorem eight_rem {b : List Int} {t : Tk} {r : List Int} {n : Int} (h0 : -9223372036854775808 ≤ n) (h1 : n < 9223372036854775808) (h : Rem b t (be8 n ++ r)) : (tEight b t).1 = n ∧ Rem b (tEight b t).2 r := by
  have hl := h.len
  rw [List.length_append, be8_len] at hl
  have e : tEight b t = (n, ⟨t.pos + 8, 0, t.place⟩) := by
    unfold tEight
    rw [tHas_yes (by omega), if_pos h.1, h.2.2, v8_be8 n r h0 h1]
  rw [e]
  exact ⟨rfl, h.on t.place⟩
theorem count_rem {b : List Int} {t : Tk} {r : List Int} {n m : Int} (h0 : 0 ≤ n) (h1 : n ≤ m) (hm : m < 4294967296) (h : Rem b t (be4 n ++ r)) : (tCount b m t).1 = n ∧ Rem b (tCount b m t).2 r := by
  obtain ⟨e, k⟩ := four_rem h0 (by omega) h
  have c : tCount b m t = tFour b t := by
    unfold tCount
    rw [if_pos k.1, if_neg (by rw [e]; simp only; omega)]
  rw [c]
  exact ⟨by rw [e], k⟩
theorem strOf_back (s : ByteArray) : strOf (strB s) = s := by
  unfold strOf strB
  apply ByteArray.ext
  simp only [List.map_map]
  apply Array.ext'
  simp only []
  have : (s.data.toList.map ((fun x : Int => UInt8.ofNat x.toNat) ∘ fun c : UInt8 => (c.toNat : Int))) = s.data.toList.map id := by
    apply List.map_congr_left
    intro c _
    simp
  rw [this]; simp
theorem strB_len (s : ByteArray) : (strB s).length = s.size := by
  unfold strB
  rw [List.length_map, Array.length_toList]
  rfl
theorem name_rem {b : List Int} {t : Tk} {r : List Int} {s : ByteArray} (hs : s.size ≤ 24) (h : Rem b t (textB s ++ r)) : (tName b t).1 = s ∧ Rem b (tName b t).2 r := by
  unfold textB at h
  rw [List.append_assoc] at h
  obtain ⟨e, k⟩ := count_rem (m := 24) (by omega) (by omega) (by omega) h
  have hl := k.len
  rw [List.length_append, strB_len] at hl
  have hh : tHas b.length (tCount b 24 t).2 (tCount b 24 t).1 = (tCount b 24 t).2 := tHas_yes (by rw [e]; omega)
  have hn : (tCount b 24 t).1.toNat = s.size := by rw [e]; omega
  have q : tName b t = (s, ⟨(tCount b 24 t).2.pos + (strB s).length, 0, (tCount b 24 t).2.place⟩) := by
    unfold tName
    rw [hh, if_pos k.1, hn, k.2.2, List.take_left' (strB_len s), strOf_back, strB_len]
  rw [q]
  exact ⟨rfl, k.on _⟩
theorem list_rem {α : Type} {b : List Int} {f : Tk → α × Tk} {enc : α → List Int} {P : α → Prop} (hf : ∀ (t : Tk) (x : α) (r : List Int), P x → Rem b t (enc x ++ r) → (f t).1 = x ∧ Rem b (f t).2 r) :
    ∀ (l : List α) (t : Tk) (r : List Int), (∀ x ∈ l, P x) → Rem b t (l.flatMap enc ++ r) → (tList f l.length t).1 = l ∧ Rem b (tList f l.length t).2 r
  | [], t, r, _, h => ⟨rfl, h⟩
  | x :: l, t, r, hp, h => by
    rw [List.flatMap_cons, List.append_assoc] at h
    obtain ⟨e, k⟩ := hf t x _ (hp x (List.mem_cons_self ..)) h
    obtain ⟨e2, k2⟩ := list_rem hf l _ r (fun y hy => hp y (List.mem_cons_of_mem _ hy)) k
    rw [List.length_cons, tList, if_pos h.1]
    exact ⟨by rw [e, e2], k2⟩
theorem sym_rem {b : List Int} (t : Tk) (x : Sym) (r : List Int) (hx : SymFit x) (h : Rem b t (symB x ++ r)) : (tSym b t).1 = x ∧ Rem b (tSym b t).2 r := by
  obtain ⟨p1, p2, p3, p4, p5⟩ := hx
  unfold great at p5
  unfold symB at h
  rw [List.append_assoc, List.append_assoc] at h
  obtain ⟨e1, k1⟩ := name_rem p1 h
  obtain ⟨e2, k2⟩ := count_rem (m := 3) p2 p3 (by omega) k1
  obtain ⟨e3, k3⟩ := count_rem (m := great) p4 p5 (by unfold great; omega) k2
  unfold tSym
  exact ⟨by rw [e1, e2, e3], k3⟩
theorem rel_rem {b : List Int} (t : Tk) (x : Rel) (r : List Int) (hx : RelFit x) (h : Rem b t (relB x ++ r)) : (tRel b t).1 = x ∧ Rem b (tRel b t).2 r := by
  obtain ⟨p1, p2, p3, p4⟩ := hx
  unfold great at p2 p4
  unfold relB at h
  rw [List.append_assoc] at h
  obtain ⟨e1, k1⟩ := count_rem (m := great) p1 p2 (by unfold great; omega) h
  obtain ⟨e2, k2⟩ := count_rem (m := great) p3 p4 (by unfold great; omega) k1
  unfold tRel
  exact ⟨by rw [e1, e2], k2⟩
theorem begin_rem (r : List Int) : Rem ([80, 76, 79, 49] ++ r) (tBegin ([80, 76, 79, 49] ++ r) [80, 76, 79, 49]) r := by
  have h : tBegin ([80, 76, 79, 49] ++ r) [80, 76, 79, 49] = ⟨4, 0, 0⟩ := by
    unfold tBegin
    have : (List.range ([80, 76, 79, 49] : List Int).length).find? (fun i => decide (([80, 76, 79, 49] ++ r).length ≤ i) || nth ([80, 76, 79, 49] ++ r) i != nth [80, 76, 79, 49] i) = none := by
      rw [List.find?_eq_none]
      intro i hi
      have hi' : i < 4 := by simpa using hi
      have hq : i = 0 ∨ i = 1 ∨ i = 2 ∨ i = 3 := by omega
      rcases hq with rfl | rfl | rfl | rfl <;> simp [nth]
    rw [this]; rfl
  rw [h]
  exact ⟨rfl, by simp, rfl⟩
theorem sum_range (l : List Int) : 0 ≤ sumB l ∧ sumB l < 4294967296 := by
  unfold sumB
  rcases List.eq_nil_or_concat l with rfl | ⟨q, x, rfl⟩
  · simp
  · simp only [List.concat_eq_append, List.foldl_append, List.foldl_cons, List.foldl_nil]
    omega
/-- What is written is read as it. -/
theorem took_read {nm : ByteArray} {code : List Int} {dA : Int} {data : List Int} {ss : List Sym} {rs : List Rel} (h1 : nm.size ≤ 24) (h2 : code.length ≤ 16384) (h3 : ∀ x ∈ code, 0 ≤ x ∧ x < 4294967296) (h4 : 0 ≤ dA ∧ dA ≤ great)
    (h5 : data.length ≤ 4096) (h6 : ∀ x ∈ data, -9223372036854775808 ≤ x ∧ x < 9223372036854775808) (h7 : ss.length ≤ 256) (h8 : ∀ x ∈ ss, SymFit x) (h9 : rs.length ≤ code.length) (h10 : ∀ x ∈ rs, RelFit x) :
    (took (bytesB nm code dA data ss rs)).nm = nm ∧ (took (bytesB nm code dA data ss rs)).code = code ∧ (took (bytesB nm code dA data ss rs)).dA = dA ∧ (took (bytesB nm code dA data ss rs)).data = data ∧ (took (bytesB nm code dA data ss rs)).ss = ss ∧ (took (bytesB nm code dA data ss rs)).rs = rs ∧ (took (bytesB nm code dA data ss rs)).t.bad = 0 := by
  have h4' := h4.2
  unfold great at h4'
  have hb : bytesB nm code dA data ss rs = [80, 76, 79, 49] ++ (textB nm ++ (be4 code.length ++ (code.flatMap be4 ++ (be4 dA ++ (be4 data.length ++ (data.flatMap be8 ++ (be4 ss.length ++ (ss.flatMap symB ++ (be4 rs.length ++ (rs.flatMap relB ++ (be4 (sumB (bodyB nm code dA data ss rs)) ++ []))))))))))) := by
    unfold bytesB
    rw [List.append_nil]
    conv => lhs; lhs; unfold bodyB
    simp only [List.append_assoc]
  have hs := sum_range (bodyB nm code dA data ss rs)
  have hlen : (bytesB nm code dA data ss rs).length = (bodyB nm code dA data ss rs).length + 4 := by unfold bytesB; rw [List.length_append, be4_len]
  have htk : (bytesB nm code dA data ss rs).take (bodyB nm code dA data ss rs).length = bodyB nm code dA data ss rs := by unfold bytesB; exact List.take_left
  generalize bytesB nm code dA data ss rs = b at hb hlen htk ⊢
  generalize bodyB nm code dA data ss rs = q at hb hlen htk hs
  have k0 := begin_rem (textB nm ++ (be4 code.length ++ (code.flatMap be4 ++ (be4 dA ++ (be4 data.length ++ (data.flatMap be8 ++ (be4 ss.length ++ (ss.flatMap symB ++ (be4 rs.length ++ (rs.flatMap relB ++ (be4 (sumB q) ++ [])))))))))))
  rw [← hb] at k0
  obtain ⟨e1, k1⟩ := name_rem h1 k0
  obtain ⟨e2, k2⟩ := count_rem (m := 16384) (by omega) (by omega) (by omega) k1
  obtain ⟨e3, k3⟩ := list_rem (P := fun x => 0 ≤ x ∧ x < 4294967296) (fun t x r hx h => ⟨by rw [(four_rem hx.1 hx.2 h).1], (four_rem hx.1 hx.2 h).2⟩) code _ _ h3 k2
  have c3 : tCode b = tList (tFour b) code.length (tCount b 16384 (tName b (tBegin b [80, 76, 79, 49])).2).2 := by unfold tCode; rw [e2]; rfl
  rw [← c3] at e3 k3
  obtain ⟨e4, k4⟩ := count_rem (m := great) h4.1 h4.2 (by unfold great; omega) k3
  obtain ⟨e5, k5⟩ := count_rem (m := 4096) (by omega) (by omega) (by omega) k4
  obtain ⟨e6, k6⟩ := list_rem (P := fun x => -9223372036854775808 ≤ x ∧ x < 9223372036854775808) (fun t x r hx h => eight_rem hx.1 hx.2 h) data _ _ h6 k5
  have c6 : tData b = tList (tEight b) data.length (tCount b 4096 (tDat b).2).2 := by unfold tData; rw [show tDat b = tCount b great (tCode b).2 from rfl, e5]; rfl
  rw [show tCount b great (tCode b).2 = tDat b from rfl, ← c6] at e6 k6
  obtain ⟨e7, k7⟩ := count_rem (m := 256) (by omega) (by omega) (by omega) k6
  obtain ⟨e8, k8⟩ := list_rem (P := SymFit) sym_rem ss _ _ h8 k7
  have c8 : tSyms b = tList (tSym b) ss.length (tCount b 256 (tData b).2).2 := by unfold tSyms; rw [e7]; rfl
  rw [← c8] at e8 k8
  obtain ⟨e9, k9⟩ := count_rem (m := (tCode b).1.length) (by omega) (by rw [e3]; omega) (by rw [e3]; omega) k8
  obtain ⟨e10, k10⟩ := list_rem (P := RelFit) rel_rem rs _ _ h10 k9
  have c10 : tRels b = tList (tRel b) rs.length (tCount b (tCode b).1.length (tSyms b).2).2 := by unfold tRels; rw [e9]; rfl
  rw [← c10] at e10 k10
  obtain ⟨e11, k11⟩ := four_rem hs.1 hs.2 k10
  refine ⟨e1, e3, e4, e6, e8, e10, ?_⟩
  show (tEnd b (tRels b).2).bad = 0
  have hl := k10.len
  rw [List.length_append, be4_len, List.length_nil] at hl
  have hp : (tRels b).2.pos = q.length := by omega
  unfold tEnd
  rw [if_pos k11.1, if_neg (by omega), if_pos (by rw [e11, hp, htk])]
  exact k11.1
/-- A sum tells its last state: two states that part stay apart. -/
theorem step_apart {s s' : Int} (h0 : 0 ≤ s ∧ s < 4294967296) (h1 : 0 ≤ s' ∧ s' < 4294967296) (hn : ¬ s = s') : ∀ (l : List Int), ¬ l.foldl (fun s b => (31 * s + b) % 4294967296) s = l.foldl (fun s b => (31 * s + b) % 4294967296) s'
  | [] => hn
  | x :: l => by
    simp only [List.foldl_cons]
    exact step_apart (by omega) (by omega) (by omega) l
theorem sum_apart {p q : List Int} {x y : Int} (hx : 0 ≤ x ∧ x < 256) (hy : 0 ≤ y ∧ y < 256) (hn : ¬ x = y) : ¬ sumB (p ++ x :: q) = sumB (p ++ y :: q) := by
  unfold sumB
  simp only [List.foldl_append, List.foldl_cons]
  exact step_apart (by omega) (by omega) (by omega) q
theorem set_parts {l : List Int} {i : Nat} (h : i < l.length) (y : Int) : l = l.take i ++ l.getD i 0 :: l.drop (i + 1) ∧ l.set i y = l.take i ++ y :: l.drop (i + 1) := by
  constructor
  · have e : l.drop i = l.getD i 0 :: l.drop (i + 1) := by rw [List.drop_eq_getElem_cons h]; simp [List.getD, h]
    rw [← e, List.take_append_drop]
  · rw [List.set_eq_take_append_cons_drop, if_pos h]
/-- Bytes that end with their sum do not with one byte otherwise. -/
theorem one_byte {b c p q : List Int} {i : Nat} {y : Int} (hb : b = p ++ be4 (sumB p)) (hc : c = q ++ be4 (sumB q)) (hB : AreB b) (hi : i < b.length) (hy : 0 ≤ y ∧ y < 256) (hn : ¬ b.getD i 0 = y) (hs : c = b.set i y) : False := by
  have hl : p.length = q.length := by
    have h1 := congrArg List.length hb
    have h2 := congrArg List.length hc
    rw [hs, List.length_set] at h2
    rw [List.length_append, be4_len] at h1 h2
    omega
  have hbl : b.length = p.length + 4 := by rw [hb, List.length_append, be4_len]
  have hx : 0 ≤ b.getD i 0 ∧ b.getD i 0 < 256 := hB _ (by simp [List.getD, hi])
  obtain ⟨e1, e2⟩ := set_parts hi y
  have tp : b.take p.length = p := by rw [hb]; exact List.take_left
  have tq : c.take p.length = q := by rw [hc, hl]; exact List.take_left
  have dp : b.drop p.length = be4 (sumB p) := by rw [hb]; exact List.drop_left
  have dq : c.drop p.length = be4 (sumB q) := by rw [hc, hl]; exact List.drop_left
  by_cases hip : i < p.length
  · have hd : c.drop p.length = b.drop p.length := by rw [hs, List.drop_set_of_lt hip]
    rw [dp, dq] at hd
    have hv := congrArg (fun l => v4 (l ++ [])) hd
    simp only [v4_be4] at hv
    have r1 := sum_range p
    have r2 := sum_range q
    rw [Int.emod_eq_of_lt r2.1 r2.2, Int.emod_eq_of_lt r1.1 r1.2] at hv
    have gp : p.getD i 0 = b.getD i 0 := by rw [hb, List.getD, List.getD, List.getElem?_append_left hip]
    have qs : q = p.set i y := by
      have h9 : q = (b.set i y).take p.length := by rw [← hs, tq]
      rw [h9, List.take_set, tp]
    obtain ⟨f1, f2⟩ := set_parts hip y
    rw [gp] at f1
    rw [qs, f2] at hv
    have hv' : sumB (p.take i ++ y :: p.drop (i + 1)) = sumB (p.take i ++ b.getD i 0 :: p.drop (i + 1)) := by rw [hv, ← f1]
    exact sum_apart hy hx (fun h => hn h.symm) hv'
  · have ht : c.take p.length = b.take p.length := by rw [hs, List.take_set_of_le (by omega)]
    rw [tp, tq] at ht
    have : c = b := by rw [hc, hb, ht]
    rw [hs] at this
    have g := congrArg (fun l => l.getD i 0) this
    simp [List.getD, hi] at g
    exact hn (by simp [List.getD, hi, g])









end Go.Proofs.YtkdafkdogmemcaaDoor

namespace Go.Proofs.YtkdafkdogmemcaaDoor
open Go.RowKit

/-- A byte taken. -/
def tByte (b : List Int) (t : Tk) : Int × Tk := if t.pos < b.length then (nth b t.pos, ⟨t.pos + 1, 0, t.place⟩) else (0, ⟨t.pos, 27, b.length⟩)
/-- The value of bytes. -/
def valB (l : List Int) : Int := l.foldl (fun a x => a * 256 + x) 0
theorem valB_snoc (l : List Int) (k : Nat) (h : k < l.length) : valB (l.take (k + 1)) = valB (l.take k) * 256 + nth l k := by
  rw [List.take_succ_eq_append_getElem h]
  unfold valB
  rw [List.foldl_append]
  simp [nth, List.getD, h]
theorem valB_range (l : List Int) (hb : AreB l) : 0 ≤ valB l ∧ valB l < 256 ^ l.length := by
  have h : ∀ (l : List Int) (a : Int), AreB l → 0 ≤ a → 0 ≤ l.foldl (fun a x => a * 256 + x) a ∧ l.foldl (fun a x => a * 256 + x) a < (a + 1) * 256 ^ l.length := by
    intro l
    induction l with
    | nil => intro a _ h0; simp; omega
    | cons x l ih =>
      intro a hb h0
      have hx := hb x (by simp)
      obtain ⟨i1, i2⟩ := ih (a * 256 + x) (fun y hy => hb y (by simp [hy])) (by omega)
      refine ⟨by simpa using i1, ?_⟩
      simp only [List.foldl_cons, List.length_cons]
      refine Int.lt_of_lt_of_le i2 ?_
      have hp : (0 : Int) ≤ 256 ^ l.length := Int.le_of_lt (Int.pow_pos (by omega))
      rw [Int.pow_succ]
      have := Int.mul_le_mul_of_nonneg_right (show a * 256 + x + 1 ≤ (a + 1) * 256 by omega) hp
      calc (a * 256 + x + 1) * 256 ^ l.length ≤ (a + 1) * 256 * 256 ^ l.length := this
        _ = (a + 1) * (256 ^ l.length * 256) := by rw [Int.mul_assoc, Int.mul_comm 256]
  have := h l 0 hb (by omega)
  unfold valB
  simpa using this
theorem nth_drop (b : List Int) (p k : Nat) : nth (b.drop p) k = nth b (p + k) := by simp [nth, List.getD]
theorem val4 {l : List Int} (h : 4 ≤ l.length) : valB (l.take 4) = v4 l := by
  obtain ⟨a, b, c, d, r, rfl⟩ := four_parts h
  simp [valB, v4]
theorem val8 {l : List Int} (h : 8 ≤ l.length) : valB (l.take 8) = v4 l * 4294967296 + v4 (l.drop 4) := by
  obtain ⟨a, b, c, d, r, rfl⟩ := four_parts (l := l) (by omega)
  obtain ⟨a2, b2, c2, d2, r2, rfl⟩ := four_parts (l := r) (by simp at h; omega)
  simp [valB, v4]
  omega



theorem four_yes {b : List Int} {p : Nat} (h : p + 4 ≤ b.length) : tFour b ⟨p, 0, 0⟩ = (v4 (b.drop p), ⟨p + 4, 0, 0⟩) := by
  unfold tFour
  rw [tHas_yes (by simp; omega)]
  rfl
theorem four_no {b : List Int} {p : Nat} (h : ¬ p + 4 ≤ b.length) : tFour b ⟨p, 0, 0⟩ = (0, ⟨p, 27, b.length⟩) := by
  unfold tFour
  have e : tHas b.length ⟨p, 0, 0⟩ 4 = ⟨p, 27, b.length⟩ := by unfold tHas; rw [if_pos ⟨rfl, by simp; omega⟩]
  rw [e]
  rfl
theorem eight_yes {b : List Int} {p : Nat} (h : p + 8 ≤ b.length) : tEight b ⟨p, 0, 0⟩ = (v8 (b.drop p), ⟨p + 8, 0, 0⟩) := by
  unfold tEight
  rw [tHas_yes (by simp; omega)]
  rfl
theorem eight_no {b : List Int} {p : Nat} (h : ¬ p + 8 ≤ b.length) : tEight b ⟨p, 0, 0⟩ = (0, ⟨p, 27, b.length⟩) := by
  unfold tEight
  have e : tHas b.length ⟨p, 0, 0⟩ 8 = ⟨p, 27, b.length⟩ := by unfold tHas; rw [if_pos ⟨rfl, by simp; omega⟩]
  rw [e]
  rfl
theorem count_no {b : List Int} {p : Nat} {m : Int} (h : ¬ p + 4 ≤ b.length) : tCount b m ⟨p, 0, 0⟩ = (0, ⟨p, 27, b.length⟩) := by
  unfold tCount
  rw [four_no h]
  rfl
theorem count_much {b : List Int} {p : Nat} {m : Int} (h : p + 4 ≤ b.length) (hm : m < v4 (b.drop p)) : tCount b m ⟨p, 0, 0⟩ = (0, ⟨p + 4, 27, p⟩) := by
  unfold tCount
  rw [four_yes h, if_pos rfl, if_pos hm]
theorem count_yes {b : List Int} {p : Nat} {m : Int} (h : p + 4 ≤ b.length) (hm : ¬ m < v4 (b.drop p)) : tCount b m ⟨p, 0, 0⟩ = (v4 (b.drop p), ⟨p + 4, 0, 0⟩) := by
  unfold tCount
  rw [four_yes h, if_pos rfl, if_neg hm]
/-- A taker that, all well, tells no place. -/
def Plain {α : Type} (f : Tk → α × Tk) : Prop := ∀ p, (f ⟨p, 0, 0⟩).2.bad = 0 → (f ⟨p, 0, 0⟩).2.place = 0
theorem plain_tk {α : Type} {f : Tk → α × Tk} (hf : Plain f) {p : Nat} (h : (f ⟨p, 0, 0⟩).2.bad = 0) : (f ⟨p, 0, 0⟩).2 = ⟨(f ⟨p, 0, 0⟩).2.pos, 0, 0⟩ := by
  have h2 := hf p h
  cases e : (f ⟨p, 0, 0⟩).2
  rw [e] at h h2
  simp only at h h2
  subst h h2
  rfl
theorem plain_four (b : List Int) : Plain (tFour b) := fun p h => by
  by_cases hp : p + 4 ≤ b.length
  · rw [four_yes hp]
  · rw [four_no hp] at h; cases h
theorem plain_eight (b : List Int) : Plain (tEight b) := fun p h => by
  by_cases hp : p + 8 ≤ b.length
  · rw [eight_yes hp]
  · rw [eight_no hp] at h; cases h
theorem plain_count (b : List Int) (m : Int) : Plain (tCount b m) := fun p h => by
  by_cases hp : p + 4 ≤ b.length
  · by_cases hm : m < v4 (b.drop p)
    · rw [count_much hp hm] at h; cases h
    · rw [count_yes hp hm]
  · rw [count_no hp] at h; cases h
theorem plain_byte (b : List Int) : Plain (tByte b) := fun p h => by
  unfold tByte at h ⊢
  split at h
  · next hp => rw [if_pos hp]
  · cases h
theorem list_bad {α : Type} (f : Tk → α × Tk) (n : Nat) (t : Tk) (h : ¬ t.bad = 0) : tList f n t = ([], t) := by
  cases n with
  | zero => rfl
  | succ n => rw [tList, if_neg h]
theorem list_step {α : Type} (f : Tk → α × Tk) (n : Nat) (t : Tk) (h : t.bad = 0) : tList f (n + 1) t = ((f t).1 :: (tList f n (f t).2).1, (tList f n (f t).2).2) := by rw [tList, if_pos h]
/-- How far a list has been taken: k items, and what is left. -/
def Far {α : Type} (f : Tk → α × Tk) (n : Nat) (t : Tk) (k : Nat) (done : List α) (q : Nat) : Prop :=
  done.length = k ∧ k ≤ n ∧ tList f n t = (done ++ (tList f (n - k) ⟨q, 0, 0⟩).1, (tList f (n - k) ⟨q, 0, 0⟩).2)
theorem far_start {α : Type} (f : Tk → α × Tk) (n p : Nat) : Far f n ⟨p, 0, 0⟩ 0 [] p := ⟨rfl, Nat.zero_le _, rfl⟩
theorem far_next {α : Type} {f : Tk → α × Tk} (hf : Plain f) {n k q : Nat} {t : Tk} {done : List α} (h : Far f n t k done q) (hk : k < n) (hg : (f ⟨q, 0, 0⟩).2.bad = 0) : Far f n t (k + 1) (done ++ [(f ⟨q, 0, 0⟩).1]) (f ⟨q, 0, 0⟩).2.pos := by
  obtain ⟨h1, h2, h3⟩ := h
  refine ⟨by simp [h1], hk, ?_⟩
  rw [h3, show n - k = (n - (k + 1)) + 1 by omega, list_step _ _ _ rfl, ← plain_tk hf hg, List.append_assoc]
  rfl
theorem far_bad {α : Type} {f : Tk → α × Tk} {n k q : Nat} {t : Tk} {done : List α} (h : Far f n t k done q) (hk : k < n) (hg : ¬ (f ⟨q, 0, 0⟩).2.bad = 0) : (tList f n t).2 = (f ⟨q, 0, 0⟩).2 := by
  obtain ⟨h1, h2, h3⟩ := h
  rw [h3, show n - k = (n - (k + 1)) + 1 by omega, list_step _ _ _ rfl, list_bad _ _ _ hg]
theorem far_end {α : Type} {f : Tk → α × Tk} {n q : Nat} {t : Tk} {done : List α} (h : Far f n t n done q) : tList f n t = (done, ⟨q, 0, 0⟩) := by
  obtain ⟨h1, h2, h3⟩ := h
  rw [h3, Nat.sub_self]
  simp [tList]
/-- How many there are, and each of them. -/
def tAll {α : Type} (b : List Int) (m : Int) (f : Tk → α × Tk) (t : Tk) : List α × Tk := tList f (tCount b m t).1.toNat (tCount b m t).2
theorem all_bad {α : Type} {b : List Int} {m : Int} {f : Tk → α × Tk} {t : Tk} (h : ¬ (tCount b m t).2.bad = 0) : (tAll b m f t).2 = (tCount b m t).2 := by
  unfold tAll
  rw [list_bad _ _ _ h]
theorem plain_list {α : Type} {f : Tk → α × Tk} (hf : Plain f) (n : Nat) : Plain (tList f n) := fun p => by
  induction n generalizing p with
  | zero => intro _; rfl
  | succ n ih =>
    intro h
    rw [list_step _ _ _ rfl] at h ⊢
    by_cases hg : (f ⟨p, 0, 0⟩).2.bad = 0
    · rw [plain_tk hf hg] at h ⊢
      exact ih _ h
    · rw [list_bad _ _ _ hg] at h
      exact absurd h hg
theorem plain_all {α : Type} {f : Tk → α × Tk} (hf : Plain f) (b : List Int) (m : Int) : Plain (tAll b m f) := fun p h => by
  unfold tAll at h ⊢
  by_cases hg : (tCount b m ⟨p, 0, 0⟩).2.bad = 0
  · have e := plain_tk (plain_count b m) hg
    rw [e] at h ⊢
    exact plain_list hf _ _ h
  · rw [list_bad _ _ _ hg] at h
    exact absurd h hg
theorem count_range {b : List Int} {m : Int} {p : Nat} (hb : AreB b) (h : (tCount b m ⟨p, 0, 0⟩).2.bad = 0) : 0 ≤ (tCount b m ⟨p, 0, 0⟩).1 ∧ (tCount b m ⟨p, 0, 0⟩).1 ≤ m := (tCount_ok hb h).2
/-- Bytes, one by one. -/
theorem bytes_all (b : List Int) : ∀ (n q : Nat), q ≤ b.length → (q + n ≤ b.length → tList (tByte b) n ⟨q, 0, 0⟩ = ((b.drop q).take n, ⟨q + n, 0, 0⟩)) ∧ (¬ q + n ≤ b.length → (tList (tByte b) n ⟨q, 0, 0⟩).2 = ⟨b.length, 27, b.length⟩) := by
  intro n
  induction n with
  | zero => intro q hq; exact ⟨fun _ => by simp [tList], fun h => absurd hq h⟩
  | succ n ih =>
    intro q hq
    rw [list_step _ _ _ rfl]
    by_cases hlt : q < b.length
    · have e : tByte b ⟨q, 0, 0⟩ = (nth b q, ⟨q + 1, 0, 0⟩) := by unfold tByte; rw [if_pos hlt]
      rw [e]
      obtain ⟨i1, i2⟩ := ih (q + 1) hlt
      refine ⟨fun h => ?_, fun h => ?_⟩
      · rw [i1 (by omega)]
        have ed : b.drop q = nth b q :: b.drop (q + 1) := by rw [List.drop_eq_getElem_cons hlt]; simp [nth, List.getD, hlt]
        rw [ed, List.take_succ_cons, show q + 1 + n = q + (n + 1) by omega]
      · exact i2 (by omega)
    · have e : tByte b ⟨q, 0, 0⟩ = (0, ⟨q, 27, b.length⟩) := by unfold tByte; rw [if_neg hlt]
      rw [e]
      refine ⟨fun h => by omega, fun h => ?_⟩
      rw [list_bad _ _ _ (by simp)]
      rw [show q = b.length by omega]
theorem has_stick {N : Nat} {t : Tk} {n : Int} (h : ¬ t.bad = 0) : tHas N t n = t := by unfold tHas; rw [if_neg (fun k => h k.1)]
theorem four_stick {b : List Int} {t : Tk} (h : ¬ t.bad = 0) : tFour b t = (0, t) := by unfold tFour; rw [has_stick h, if_neg h]
theorem count_stick {b : List Int} {m : Int} {t : Tk} (h : ¬ t.bad = 0) : tCount b m t = (0, t) := by unfold tCount; rw [four_stick h, if_neg h]








end Go.Proofs.YtkdafkdogmemcaaDoor
