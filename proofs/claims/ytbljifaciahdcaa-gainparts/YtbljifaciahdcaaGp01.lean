/-
  What every statement of this seat shares: that what was read stays read where only new memory is made, and how a law ends that returned true; no condition. Lists, and how they lie in memory; no Go in sight. Worlds that part in one block alone; no Go in sight. Numbers as bytes, and how they are taken from the left, as plain mathematics; no Go in sight. What is taken of bytes is written as they were, as plain mathematics; no Go in sight.
-/
import Derived.Test.YtbljifaciahdcaaProg
import Derived.WalkKit
import Derived.ProofKit
import Derived.OpenShut
import Derived.Stop.Joined
import Derived.Carry
import Derived.Lib.SmallJoins
import Derived.SizedLaws
import Derived.WalkSpells
import Derived.WalkLawsBesides
import Derived.RowKit3
import Derived.Below
namespace Go.Proofs.Ytbljifaciahdcaa
open Go.ChangeShapes Go.WideShapes Go.ChangeAt Go.RowKit Go.Joins

theorem own : ownKnob Try.prog.godebug = none := by kernel_rfl
theorem laidOut : laidOutB Try.prog = true := by kernel_rfl

/-- What was read stays read, argument by argument, where only new memory is made. -/
theorem trodAll_below {H : Type} {enc : TypeId × Value → H} {P : Program} (hl : laidOutB P = true) {W W' : World} (hb : Below W.heap.size W W') :
    ∀ (ts : List TypeId) (vs : List Value) (ds : List (DataW H)) (ps : List MemPlace), (∀ t ∈ ts, P.readableRec t = true ∧ t < P.types.size) →
      DataW.TrodAll enc P W 0 (fun _ => true) true ts vs ds ps → (∀ x ∈ ps, x.block < W.heap.size) →
      DataW.TrodAll enc P W' 0 (fun b => decide (b < W.heap.size)) true ts vs ds ps
  | [], vs, ds, ps, _, h, _ => by
    obtain ⟨rfl, rfl, rfl⟩ := trodAll_nil h
    exact trodAll_mk0
  | t :: ts, vs, ds, ps, hts, h, hlt => by
    obtain ⟨v, vs', d, ds', p, q, rfl, rfl, rfl, h0, h1⟩ := trodAll_cons h
    obtain ⟨hr, hrow⟩ := hts t (List.mem_cons_self ..)
    exact trodAll_cons_mk (Below.trod hl hr hrow h0 hb fun x hx => hlt x (List.mem_append_left _ hx))
      (trodAll_below hl hb ts vs' ds' q (fun u hu => hts u (List.mem_cons_of_mem _ hu)) h1 fun x hx => hlt x (List.mem_append_right _ hx))

/-- The end of a law that returned true and made new memory alone. -/
theorem law_post {H : Type} {enc : TypeId × Value → H} {P : Program} (hl : laidOutB P = true) {f : Func} {s : ChangeSpec} {tb : TypeId} (hv : s.vars = []) (hres : f.resultTypes = #[tb]) (hu : P.underlying tb = some .bool)
    (hts : ∀ t ∈ f.params.toList, P.readableRec t = true ∧ t < P.types.size) {W W' : World} {args : Array Value} {ds gs : List (DataW H)} {before : List MemPlace}
    (hW : DataW.Whole enc P f.params.toList s.vars false W args.toList ds gs before) (hfn : s.fn H (ds ++ gs) = { results := [.lit (.bool true)], args := ds }) (hb : Below W.heap.size W W') :
    s.post enc P f false true false false W args (.bool true) W' := by
  have hW' := hW
  obtain ⟨p, q, hA, hV, rfl, hfz, hnd⟩ := hW
  refine ⟨ds, gs, p ++ q, [], p, [], hW', ?_, ?_, ?_, hb.frame _, fun h => by cases h⟩
  · rw [hfn, hres]
    exact trodAll_mk1 (shut_bool hu true)
  · rw [hfn]
    exact trodAll_below hl hb _ _ _ _ hts hA fun x hx => hW'.lt x (List.mem_append_left _ hx)
  · rw [hfn, hv]
    rfl

theorem boundsOf {k : IntKind} {x : Int} (h : (Lit.int k x).wf = true) : k.min ≤ x ∧ x ≤ k.max := by
  simpa [Lit.wf] using h








end Go.Proofs.Ytbljifaciahdcaa

namespace Go.Proofs.Ytbljifaciahdcaa
open Go.RowKit

theorem take_same {α : Type} {zs ys : List α} {z : α} {k : Nat} (h : zs.take k = ys.take k) (h1 : k < zs.length) (h2 : k < ys.length) (e : zs.getD k z = ys.getD k z) : zs.take (k + 1) = ys.take (k + 1) := by
  rw [List.take_succ_eq_append_getElem h1, List.take_succ_eq_append_getElem h2, h]
  have : zs[k] = ys[k] := by simpa [List.getD, h1, h2] using e
  rw [this]
theorem take_all {α : Type} {zs ys : List α} {k : Nat} (h : zs.take k = ys.take k) (h1 : zs.length ≤ k) (h2 : zs.length = ys.length) : zs = ys := by
  rw [List.take_of_length_le h1, List.take_of_length_le (by omega)] at h
  exact h
theorem ne_at {α : Type} {zs ys : List α} {z : α} {k : Nat} (e : ¬ zs.getD k z = ys.getD k z) : ¬ zs = ys := fun h => e (by rw [h])
theorem retB {a b : Bool} (h : a = b) : Ending.returned (.bool a) = .returned (.bool b) := by rw [h]
/-- The number at a place of a list. -/
def nth (zs : List Int) (k : Nat) : Int := zs.getD k 0
abbrev Sym := ByteArray × Int × Int
abbrev Rel := Int × Int
def symD : Sym := (⟨#[]⟩, 0, 0)
def sName (l : List Sym) (k : Nat) : ByteArray := (l.getD k symD).1
def sKind (l : List Sym) (k : Nat) : Int := (l.getD k symD).2.1
def sAt (l : List Sym) (k : Nat) : Int := (l.getD k symD).2.2
def rAt (l : List Rel) (k : Nat) : Int := (l.getD k (0, 0)).1
def rSym (l : List Rel) (k : Nat) : Int := (l.getD k (0, 0)).2
/-- How a list lies in memory: each cell of each item. -/
def IntsAt (w : World) (A : Option Addr) (K : IntKind) (zs : List Int) : Prop := ∀ i, i < zs.length → ∃ a : Addr, A = some a ∧ w.cell? (a.add i) = some (.int K (nth zs i))
def SymsAt (w : World) (A : Option Addr) (zs : List Sym) : Prop := ∀ i, i < zs.length → ∃ a : Addr, A = some a ∧ w.cell? (a.add (i * 3)) = some (.string (sName zs i)) ∧ w.cell? ((a.add (i * 3)).add 1) = some (.int .i8 (sKind zs i)) ∧ w.cell? ((a.add (i * 3)).add 2) = some (.int .i64 (sAt zs i))
def RelsAt (w : World) (A : Option Addr) (zs : List Rel) : Prop := ∀ i, i < zs.length → ∃ a : Addr, A = some a ∧ w.cell? (a.add (i * 2)) = some (.int .i64 (rAt zs i)) ∧ w.cell? ((a.add (i * 2)).add 1) = some (.int .i64 (rSym zs i))
theorem lb_alloc {w w1 : World} (h : Below w.heap.size w w1) (o : Obj) : Below w.heap.size w (w1.alloc o) := h.alloc h.size o
theorem lb_trans {w w1 w2 : World} (h : Below w.heap.size w w1) (k : Below w1.heap.size w1 w2) : Below w.heap.size w w2 := h.trans (k.mono h.size)
theorem lkeep {w w1 : World} (h : Below w.heap.size w w1) {p : Addr} {v : Value} (hc : w.cell? p = some v) : w1.cell? p = some v := by
  rw [h.cell (p := p) (World.block_lt_of_cell? w _ hc)]; exact hc
theorem IntsAt.keep {w w1 : World} {A : Option Addr} {K : IntKind} {zs : List Int} (h : IntsAt w A K zs) (hb : Below w.heap.size w w1) : IntsAt w1 A K zs := fun i hi => by
  obtain ⟨a, e, c⟩ := h i hi
  exact ⟨a, e, lkeep hb c⟩
theorem SymsAt.keep {w w1 : World} {A : Option Addr} {zs : List Sym} (h : SymsAt w A zs) (hb : Below w.heap.size w w1) : SymsAt w1 A zs := fun i hi => by
  obtain ⟨a, e, c, d, f⟩ := h i hi
  exact ⟨a, e, lkeep hb c, lkeep hb d, lkeep hb f⟩
theorem RelsAt.keep {w w1 : World} {A : Option Addr} {zs : List Rel} (h : RelsAt w A zs) (hb : Below w.heap.size w w1) : RelsAt w1 A zs := fun i hi => by
  obtain ⟨a, e, c, d⟩ := h i hi
  exact ⟨a, e, lkeep hb c, lkeep hb d⟩
theorem nth_ne {zs ys : List Int} {k : Nat} (e : ¬ nth zs k = nth ys k) : ¬ zs = ys := fun h => e (by rw [h])
theorem sym_same {zs ys : List Sym} {k : Nat} (e : sName zs k = sName ys k) (f : sKind zs k = sKind ys k) (g : sAt zs k = sAt ys k) : zs.getD k symD = ys.getD k symD := Prod.ext e (Prod.ext f g)
theorem rel_same {zs ys : List Rel} {k : Nat} (e : rAt zs k = rAt ys k) (f : rSym zs k = rSym ys k) : zs.getD k (0, 0) = ys.getD k (0, 0) := Prod.ext e f
/-- A row of cells, written up to k. -/
def wcur (f z : Nat → Value) (N k : Nat) : Array Value := ((List.range N).map fun i => if i < k then f i else z i).toArray
theorem wcur_size (f z : Nat → Value) (N k : Nat) : (wcur f z N k).size = N := by simp [wcur]
theorem wcur_get (f z : Nat → Value) (N k i : Nat) (h : i < N) : (wcur f z N k)[i]? = some (if i < k then f i else z i) := by simp [wcur, h]
theorem wcur_set (f z : Nat → Value) (N k : Nat) (h : k < N) : (wcur f z N k).setIfInBounds k (f k) = wcur f z N (k + 1) := by
  apply Array.ext_getElem?
  intro i
  by_cases hi : i < N
  · rw [wcur_get _ _ _ _ _ hi, Array.getElem?_setIfInBounds, wcur_size]
    by_cases hk : k = i
    · subst hk; simp [h]
    · rw [if_neg hk, wcur_get _ _ _ _ _ hi]
      by_cases h1 : i < k
      · simp [h1, show i < k + 1 by omega]
      · simp [h1, show ¬ i < k + 1 by omega]
  · rw [Array.getElem?_eq_none (by simp [wcur_size]; omega), Array.getElem?_eq_none (by simp [wcur_size]; omega)]
/-- The mark at a place. -/
def mark (i : Nat) : Int := 9437184 + i + 1
def wInt (k : IntKind) (zs : List Int) (i : Nat) : Value := if i < zs.length then .int k (nth zs i) else .int k (mark i)
def wSym (zs : List Sym) (i : Nat) : Value := if i / 3 < zs.length then (if i % 3 = 0 then .string (sName zs (i / 3)) else if i % 3 = 1 then .int .i8 (sKind zs (i / 3)) else .int .i64 (sAt zs (i / 3))) else (if i % 3 = 0 then .string ⟨#[]⟩ else if i % 3 = 1 then .int .i8 0 else .int .i64 (mark (i / 3)))
def zSym (i : Nat) : Value := if i % 3 = 0 then .string ⟨#[]⟩ else if i % 3 = 1 then .int .i8 0 else .int .i64 0
def wRel (zs : List Rel) (i : Nat) : Value := if i / 2 < zs.length then (if i % 2 = 0 then .int .i64 (rAt zs (i / 2)) else .int .i64 (rSym zs (i / 2))) else (if i % 2 = 0 then .int .i64 (mark (i / 2)) else .int .i64 0)












end Go.Proofs.Ytbljifaciahdcaa

namespace Go.Proofs.Ytbljifaciahdcaa
open Go.RowKit

/-- Nothing is other but what lies in block g, and new blocks. -/
def But (g : Nat) (w w' : World) : Prop := w'.os = w.os ∧ w'.tape = w.tape ∧ w'.output = w.output ∧ w.heap.size ≤ w'.heap.size ∧ ∀ k, k < w.heap.size → k ≠ g → w'.heap[k]? = w.heap[k]?
theorem But.refl (g : Nat) (w : World) : But g w w := ⟨rfl, rfl, rfl, Nat.le_refl _, fun _ _ _ => rfl⟩
theorem But.trans {g : Nat} {a b c : World} (h : But g a b) (k : But g b c) : But g a c :=
  ⟨k.1.trans h.1, k.2.1.trans h.2.1, k.2.2.1.trans h.2.2.1, Nat.le_trans h.2.2.2.1 k.2.2.2.1, fun i hi hn => (k.2.2.2.2 i (Nat.lt_of_lt_of_le hi h.2.2.2.1) hn).trans (h.2.2.2.2 i hi hn)⟩
theorem But.of {g : Nat} {w w' : World} (h : Below w.heap.size w w') : But g w w' := ⟨h.os, h.tape, h.output, h.size, fun k hk _ => h.block k hk⟩
theorem But.on {g : Nat} {a b c : World} (h : But g a b) (k : Below b.heap.size b c) : But g a c := h.trans (But.of k)
theorem But.set {g : Nat} {a b : World} (h : But g a b) (i : Nat) (v : Value) : But g a (b.setCell ⟨g, i, none⟩ v) :=
  h.trans ⟨rfl, rfl, rfl, Nat.le_of_eq (by simp [go_sem]), fun k _ hn => Below.heap_setCell _ _ _ _ hn⟩
theorem But.drewN {g : Nat} {a b : World} (h : But g a b) (n : Nat) : But g a (b.drewN n) := h
theorem But.cell {g : Nat} {w w' : World} (h : But g w w') {p : Addr} {v : Value} (hp : p.block ≠ g) (hc : w.cell? p = some v) : w'.cell? p = some v := by
  rw [World.cell?_of_block (w := w) (h.2.2.2.2 p.block (World.block_lt_of_cell? w _ hc) hp)]; exact hc
theorem But.below {g : Nat} {w0 w w' : World} (h : But g w w') (hb : Below w0.heap.size w0 w) (hg : w0.heap.size ≤ g) : Below w0.heap.size w0 w' :=
  ⟨h.1.trans hb.os, h.2.1.trans hb.tape, h.2.2.1.trans hb.output, Nat.le_trans hb.size h.2.2.2.1, fun k hk => (h.2.2.2.2 k (Nat.lt_of_lt_of_le hk hb.size) (by omega)).trans (hb.block k hk)⟩










end Go.Proofs.Ytbljifaciahdcaa

namespace Go.Proofs.Ytbljifaciahdcaa
open Go.RowKit

/-- A number's four bytes, the highest first; of eight. -/
def be4 (n : Int) : List Int := [n / 16777216 % 256, n / 65536 % 256, n / 256 % 256, n % 256]
def be8 (n : Int) : List Int := be4 (n / 4294967296) ++ be4 n
def v4 : List Int → Int
  | a :: b :: c :: d :: _ => ((a * 256 + b) * 256 + c) * 256 + d
  | _ => 0
def s64 (x : Int) : Int := if x < 9223372036854775808 then x else x - 18446744073709551616
def v8 (l : List Int) : Int := s64 (v4 l * 4294967296 + v4 (l.drop 4))
/-- Each is a byte. -/
def AreB (l : List Int) : Prop := ∀ x ∈ l, 0 ≤ x ∧ x < 256
theorem AreB.drop {l : List Int} (h : AreB l) (k : Nat) : AreB (l.drop k) := fun x hx => h x (List.mem_of_mem_drop hx)
theorem AreB.take {l : List Int} (h : AreB l) (k : Nat) : AreB (l.take k) := fun x hx => h x (List.mem_of_mem_take hx)
theorem AreB.app {l r : List Int} (h : AreB l) (k : AreB r) : AreB (l ++ r) := fun x hx => (List.mem_append.1 hx).elim (h x) (k x)
theorem be4_len (n : Int) : (be4 n).length = 4 := rfl
theorem be8_len (n : Int) : (be8 n).length = 8 := rfl
theorem be4_areB (n : Int) : AreB (be4 n) := fun x hx => by
  simp [be4] at hx
  omega
theorem be8_areB (n : Int) : AreB (be8 n) := (be4_areB _).app (be4_areB _)
theorem v4_be4 (n : Int) (r : List Int) : v4 (be4 n ++ r) = n % 4294967296 := by
  simp only [be4, List.cons_append, List.nil_append, v4]
  omega
theorem four_parts {l : List Int} (h : 4 ≤ l.length) : ∃ a b c d r, l = a :: b :: c :: d :: r := by
  match l, h with
  | a :: b :: c :: d :: r, _ => exact ⟨a, b, c, d, r, rfl⟩
theorem be4_v4 {l : List Int} (h : 4 ≤ l.length) (hb : AreB l) : l = be4 (v4 l) ++ l.drop 4 ∧ 0 ≤ v4 l ∧ v4 l < 4294967296 := by
  obtain ⟨a, b, c, d, r, rfl⟩ := four_parts h
  have h0 := hb a (by simp)
  have h1 := hb b (by simp)
  have h2 := hb c (by simp)
  have h3 := hb d (by simp)
  simp only [v4, be4, List.cons_append, List.nil_append, List.drop_succ_cons, List.drop_zero, List.cons.injEq, and_true]
  omega
theorem v8_be8 (n : Int) (r : List Int) (h0 : -9223372036854775808 ≤ n) (h1 : n < 9223372036854775808) : v8 (be8 n ++ r) = n := by
  have e : (be8 n ++ r).drop 4 = be4 n ++ r := rfl
  unfold v8
  rw [e, v4_be4]
  unfold be8
  rw [List.append_assoc, v4_be4]
  unfold s64
  split <;> omega
theorem be8_v8 {l : List Int} (h : 8 ≤ l.length) (hb : AreB l) : l = be8 (v8 l) ++ l.drop 8 ∧ -9223372036854775808 ≤ v8 l ∧ v8 l < 9223372036854775808 := by
  obtain ⟨e1, a1, a2⟩ := be4_v4 (l := l) (by omega) hb
  obtain ⟨e2, b1, b2⟩ := be4_v4 (l := l.drop 4) (by simp; omega) (hb.drop 4)
  have k1 : v8 l / 4294967296 % 4294967296 = v4 l := by
    unfold v8 s64
    split <;> omega
  have k2 : v8 l % 4294967296 = v4 (l.drop 4) := by
    unfold v8 s64
    split <;> omega
  have m4 : ∀ x : Int, be4 (x % 4294967296) = be4 x := fun x => by
    simp only [be4, List.cons.injEq, and_true]
    omega
  refine ⟨?_, ?_, ?_⟩
  · unfold be8
    rw [← m4 (v8 l / 4294967296), ← m4 (v8 l), k1, k2, List.append_assoc, show l.drop 8 = (l.drop 4).drop 4 by rw [List.drop_drop], ← e2]
    exact e1
  · unfold v8 s64
    split <;> omega
  · unfold v8 s64
    split <;> omega
/-- The sum of bytes. -/
def sumB (l : List Int) : Int := l.foldl (fun s b => (31 * s + b) % 4294967296) 0
/-- A text's bytes. -/
def strB (s : ByteArray) : List Int := s.data.toList.map fun c => (c.toNat : Int)
def textB (s : ByteArray) : List Int := be4 s.size ++ strB s
def symB (x : Sym) : List Int := textB x.1 ++ be4 x.2.1 ++ be4 x.2.2
def relB (x : Rel) : List Int := be4 x.1 ++ be4 x.2
def bodyB (nm : ByteArray) (code : List Int) (dA : Int) (data : List Int) (ss : List Sym) (rs : List Rel) : List Int :=
  [80, 76, 79, 49] ++ textB nm ++ be4 code.length ++ code.flatMap be4 ++ be4 dA ++ be4 data.length ++ data.flatMap be8 ++ be4 ss.length ++ ss.flatMap symB ++ be4 rs.length ++ rs.flatMap relB
def bytesB (nm : ByteArray) (code : List Int) (dA : Int) (data : List Int) (ss : List Sym) (rs : List Rel) : List Int :=
  bodyB nm code dA data ss rs ++ be4 (sumB (bodyB nm code dA data ss rs))
/-- Where a taker stands, and what is wrong. -/
structure Tk where
  pos : Nat
  bad : Int
  place : Int
def tWrong (t : Tk) (e p : Int) : Tk := if t.bad = 0 then ⟨t.pos, e, p⟩ else t
def tHas (N : Nat) (t : Tk) (n : Int) : Tk := if t.bad = 0 ∧ (N : Int) - t.pos < n then ⟨t.pos, 27, N⟩ else t
def tFour (b : List Int) (t : Tk) : Int × Tk := if (tHas b.length t 4).bad = 0 then (v4 (b.drop t.pos), ⟨t.pos + 4, 0, t.place⟩) else (0, tHas b.length t 4)
def tEight (b : List Int) (t : Tk) : Int × Tk := if (tHas b.length t 8).bad = 0 then (v8 (b.drop t.pos), ⟨t.pos + 8, 0, t.place⟩) else (0, tHas b.length t 8)
def tCount (b : List Int) (most : Int) (t : Tk) : Int × Tk :=
  if (tFour b t).2.bad = 0 then (if most < (tFour b t).1 then (0, ⟨t.pos + 4, 27, t.pos⟩) else tFour b t) else (0, (tFour b t).2)
def tBegin (b want : List Int) : Tk := match (List.range want.length).find? (fun i => decide (b.length ≤ i) || nth b i != nth want i) with
  | some i => ⟨want.length, 27, i⟩
  | none => ⟨want.length, 0, 0⟩
def strOf (l : List Int) : ByteArray := ⟨(l.map fun x => UInt8.ofNat x.toNat).toArray⟩
def tName (b : List Int) (t : Tk) : ByteArray × Tk :=
  if (tHas b.length (tCount b 24 t).2 (tCount b 24 t).1).bad = 0 then (strOf ((b.drop (tCount b 24 t).2.pos).take (tCount b 24 t).1.toNat), ⟨(tCount b 24 t).2.pos + (tCount b 24 t).1.toNat, 0, (tCount b 24 t).2.place⟩) else (⟨#[]⟩, tHas b.length (tCount b 24 t).2 (tCount b 24 t).1)
def tList {α : Type} (f : Tk → α × Tk) : Nat → Tk → List α × Tk
  | 0, t => ([], t)
  | n + 1, t => if t.bad = 0 then ((f t).1 :: (tList f n (f t).2).1, (tList f n (f t).2).2) else ([], t)
def great : Int := 2147483647
def tSym (b : List Int) (t : Tk) : Sym × Tk :=
  (((tName b t).1, (tCount b 3 (tName b t).2).1, (tCount b great (tCount b 3 (tName b t).2).2).1), (tCount b great (tCount b 3 (tName b t).2).2).2)
def tRel (b : List Int) (t : Tk) : Rel × Tk := (((tCount b great t).1, (tCount b great (tCount b great t).2).1), (tCount b great (tCount b great t).2).2)
def tEnd (b : List Int) (t : Tk) : Tk :=
  if (tFour b t).2.bad = 0 then (if t.pos + 4 < b.length then ⟨t.pos + 4, 27, t.pos + 4⟩ else if (tFour b t).1 = sumB (b.take t.pos) then (tFour b t).2 else ⟨t.pos + 4, 28, t.pos⟩) else (tFour b t).2
/-- All that is taken of an object's bytes. -/
structure Took where
  nm : ByteArray
  code : List Int
  dA : Int
  data : List Int
  ss : List Sym
  rs : List Rel
  t : Tk
def tCode (b : List Int) : List Int × Tk := tList (tFour b) (tCount b 16384 (tName b (tBegin b [80, 76, 79, 49])).2).1.toNat (tCount b 16384 (tName b (tBegin b [80, 76, 79, 49])).2).2
def tDat (b : List Int) : Int × Tk := tCount b great (tCode b).2
def tData (b : List Int) : List Int × Tk := tList (tEight b) (tCount b 4096 (tDat b).2).1.toNat (tCount b 4096 (tDat b).2).2
def tSyms (b : List Int) : List Sym × Tk := tList (tSym b) (tCount b 256 (tData b).2).1.toNat (tCount b 256 (tData b).2).2
def tRels (b : List Int) : List Rel × Tk := tList (tRel b) (tCount b (tCode b).1.length (tSyms b).2).1.toNat (tCount b (tCode b).1.length (tSyms b).2).2
def took (b : List Int) : Took := ⟨(tName b (tBegin b [80, 76, 79, 49])).1, (tCode b).1, (tDat b).1, (tData b).1, (tSyms b).1, (tRels b).1, tEnd b (tRels b).2⟩











end Go.Proofs.Ytbljifaciahdcaa

namespace Go.Proofs.Ytbljifaciahdcaa
open Go.RowKit

/-- The bytes e lie between where t and t' stand. -/
def Ate (b : List Int) (t t' : Tk) (e : List Int) : Prop := t.bad = 0 ∧ t'.pos = t.pos + e.length ∧ b.drop t.pos = e ++ b.drop t'.pos
theorem Ate.trans {b : List Int} {t t' t'' : Tk} {e e' : List Int} (h : Ate b t t' e) (k : Ate b t' t'' e') : Ate b t t'' (e ++ e') :=
  ⟨h.1, by rw [k.2.1, h.2.1, List.length_append]; omega, by rw [h.2.2, k.2.2, List.append_assoc]⟩
theorem Ate.nil {b : List Int} {t : Tk} (h : t.bad = 0) : Ate b t t [] := ⟨h, rfl, rfl⟩
theorem tHas_ok {N : Nat} {t : Tk} {n : Int} (h : (tHas N t n).bad = 0) : t.bad = 0 ∧ n ≤ (N : Int) - t.pos ∧ tHas N t n = t := by
  unfold tHas at h ⊢
  split at h
  · cases h
  · next hc => exact ⟨h, by omega, if_neg hc⟩
theorem tFour_ok {b : List Int} {t : Tk} (hb : AreB b) (h : (tFour b t).2.bad = 0) : Ate b t (tFour b t).2 (be4 (tFour b t).1) ∧ 0 ≤ (tFour b t).1 ∧ (tFour b t).1 < 4294967296 := by
  unfold tFour at h ⊢
  split at h
  · next hc =>
    obtain ⟨h0, h1, _⟩ := tHas_ok hc
    rw [if_pos hc]
    have hl : 4 ≤ (b.drop t.pos).length := by simp; omega
    obtain ⟨e, a1, a2⟩ := be4_v4 hl (hb.drop _)
    refine ⟨⟨h0, rfl, ?_⟩, a1, a2⟩
    rw [List.drop_drop] at e
    exact e
  · next hc => exact absurd h hc
theorem tEight_ok {b : List Int} {t : Tk} (hb : AreB b) (h : (tEight b t).2.bad = 0) : Ate b t (tEight b t).2 (be8 (tEight b t).1) ∧ -9223372036854775808 ≤ (tEight b t).1 ∧ (tEight b t).1 < 9223372036854775808 := by
  unfold tEight at h ⊢
  split at h
  · next hc =>
    obtain ⟨h0, h1, _⟩ := tHas_ok hc
    rw [if_pos hc]
    have hl : 8 ≤ (b.drop t.pos).length := by simp; omega
    obtain ⟨e, a1, a2⟩ := be8_v8 hl (hb.drop _)
    refine ⟨⟨h0, rfl, ?_⟩, a1, a2⟩
    rw [List.drop_drop] at e
    exact e
  · next hc => exact absurd h hc
theorem tCount_ok {b : List Int} {m : Int} {t : Tk} (hb : AreB b) (h : (tCount b m t).2.bad = 0) : Ate b t (tCount b m t).2 (be4 (tCount b m t).1) ∧ 0 ≤ (tCount b m t).1 ∧ (tCount b m t).1 ≤ m := by
  unfold tCount at h ⊢
  split at h
  · next hc =>
    rw [if_pos hc]
    split at h
    · cases h
    · next hm =>
      rw [if_neg hm]
      obtain ⟨a, b1, _⟩ := tFour_ok hb hc
      exact ⟨a, b1, by omega⟩
  · next hc => exact absurd h hc
theorem tBegin_ok {b : List Int} (h : (tBegin b [80, 76, 79, 49]).bad = 0) : (tBegin b [80, 76, 79, 49]).pos = 4 ∧ b = [80, 76, 79, 49] ++ b.drop 4 := by
  unfold tBegin at h ⊢
  split at h
  · cases h
  · next hn =>
    refine ⟨rfl, ?_⟩
    rw [List.find?_eq_none] at hn
    have k : ∀ i, i < 4 → i < b.length ∧ nth b i = nth [80, 76, 79, 49] i := fun i hi => by
      have := hn i (by simpa using hi)
      simp at this
      exact ⟨by omega, this.2⟩
    obtain ⟨l0, e0⟩ := k 0 (by omega)
    obtain ⟨l1, e1⟩ := k 1 (by omega)
    obtain ⟨l2, e2⟩ := k 2 (by omega)
    obtain ⟨l3, e3⟩ := k 3 (by omega)
    obtain ⟨x, y, z, u, r, rfl⟩ := four_parts (l := b) (by omega)
    simp [nth] at e0 e1 e2 e3
    subst e0 e1 e2 e3
    rfl
theorem byte_back {x : Int} (h : 0 ≤ x ∧ x < 256) : ((UInt8.ofNat x.toNat).toNat : Int) = x := by
  rw [UInt8.toNat_ofNat']
  omega
theorem strOf_size (l : List Int) : (strOf l).size = l.length := by simp [strOf, ByteArray.size]
theorem strB_of {l : List Int} (h : AreB l) : strB (strOf l) = l := by
  unfold strB strOf
  simp only [List.map_map]
  rw [show l = l.map id by simp]
  simp only [List.map_map]
  apply List.map_congr_left
  intro x hx
  simp only [Function.comp, id]
  exact byte_back (h x hx)
theorem tName_ok {b : List Int} {t : Tk} (hb : AreB b) (h : (tName b t).2.bad = 0) : Ate b t (tName b t).2 (textB (tName b t).1) ∧ (tName b t).1.size ≤ 24 := by
  unfold tName at h ⊢
  split at h
  · next hc =>
    rw [if_pos hc]
    obtain ⟨h0, h1, _⟩ := tHas_ok hc
    obtain ⟨a, b1, b2⟩ := tCount_ok hb h0
    generalize (tCount b 24 t).1 = n at *
    generalize (tCount b 24 t).2 = t2 at *
    have hl : n.toNat ≤ (b.drop t2.pos).length := by simp; omega
    have ht : ((b.drop t2.pos).take n.toNat).length = n.toNat := by rw [List.length_take]; omega
    have hs : (strOf ((b.drop t2.pos).take n.toNat)).size = n.toNat := by rw [strOf_size, ht]
    refine ⟨?_, by simp only [hs]; omega⟩
    unfold textB
    simp only [hs]
    rw [show ((n.toNat : Nat) : Int) = n by omega]
    refine a.trans ⟨h0, ?_, ?_⟩
    · rw [strB_of ((hb.drop _).take _), ht]
    · rw [strB_of ((hb.drop _).take _), ← List.drop_drop, List.take_append_drop]
  · next hc => exact absurd h hc
theorem tList_ok {α : Type} {b : List Int} {f : Tk → α × Tk} {enc : α → List Int} {P : α → Prop} (hf : ∀ t, (f t).2.bad = 0 → Ate b t (f t).2 (enc (f t).1) ∧ P (f t).1) :
    ∀ (n : Nat) (t : Tk), (tList f n t).2.bad = 0 → Ate b t (tList f n t).2 ((tList f n t).1.flatMap enc) ∧ (tList f n t).1.length = n ∧ ∀ x ∈ (tList f n t).1, P x
  | 0, t, h => ⟨Ate.nil h, rfl, fun x hx => by cases hx⟩
  | n + 1, t, h => by
    rw [tList] at h ⊢
    split at h
    · next hc =>
      rw [if_pos hc]
      obtain ⟨a, l, p⟩ := tList_ok hf n _ h
      obtain ⟨a1, p1⟩ := hf t a.1
      refine ⟨?_, by simp [l], ?_⟩
      · simp only [List.flatMap_cons]
        exact a1.trans a
      · intro x hx
        rcases List.mem_cons.1 hx with rfl | hx
        · exact p1
        · exact p x hx
    · next hc => exact absurd h hc
def SymFit (x : Sym) : Prop := x.1.size ≤ 24 ∧ 0 ≤ x.2.1 ∧ x.2.1 ≤ 3 ∧ 0 ≤ x.2.2 ∧ x.2.2 ≤ great
def RelFit (x : Rel) : Prop := 0 ≤ x.1 ∧ x.1 ≤ great ∧ 0 ≤ x.2 ∧ x.2 ≤ great
theorem tSym_ok {b : List Int} {t : Tk} (hb : AreB b) (h : (tSym b t).2.bad = 0) : Ate b t (tSym b t).2 (symB (tSym b t).1) ∧ SymFit (tSym b t).1 := by
  unfold tSym at h ⊢
  obtain ⟨a3, p3, q3⟩ := tCount_ok hb h
  obtain ⟨a2, p2, q2⟩ := tCount_ok hb a3.1
  obtain ⟨a1, p1⟩ := tName_ok hb a2.1
  exact ⟨(a1.trans a2).trans a3, p1, p2, q2, p3, q3⟩
theorem tRel_ok {b : List Int} {t : Tk} (hb : AreB b) (h : (tRel b t).2.bad = 0) : Ate b t (tRel b t).2 (relB (tRel b t).1) ∧ RelFit (tRel b t).1 := by
  unfold tRel at h ⊢
  obtain ⟨a2, p2, q2⟩ := tCount_ok hb h
  obtain ⟨a1, p1, q1⟩ := tCount_ok hb a2.1
  exact ⟨a1.trans a2, p1, q1, p2, q2⟩
theorem tEnd_ok {b : List Int} {t : Tk} (hb : AreB b) (h : (tEnd b t).bad = 0) : t.bad = 0 ∧ b.drop t.pos = be4 (sumB (b.take t.pos)) ∧ b.length = t.pos + 4 := by
  unfold tEnd at h
  split at h
  · next hc =>
    split at h
    · cases h
    · next h1 =>
      split at h
      · next h2 =>
        obtain ⟨a, _, _⟩ := tFour_ok hb hc
        have hp : (tFour b t).2.pos = t.pos + 4 := a.2.1
        have e := a.2.2
        rw [hp, List.drop_eq_nil_of_le (show b.length ≤ t.pos + 4 by omega), List.append_nil, h2] at e
        have hl := congrArg List.length e
        rw [List.length_drop, be4_len] at hl
        exact ⟨a.1, e, by omega⟩
      · cases h
  · next hc => exact absurd h hc
theorem take_two {b p e : List Int} {P : Nat} (h1 : b = p ++ b.drop p.length) (h2 : b.drop p.length = e ++ b.drop P) (h3 : P = p.length + e.length) : b.take P = p ++ e := by
  have h : b = (p ++ e) ++ b.drop P := by rw [List.append_assoc, ← h2]; exact h1
  have h' : b.take P = ((p ++ e) ++ b.drop P).take P := congrArg (List.take P) h
  rw [h']
  exact List.take_left' (by rw [List.length_append, h3])
/-- What is taken whole is written as it was. -/
theorem took_write {b : List Int} (hb : AreB b) (h : (took b).t.bad = 0) :
    b = bytesB (took b).nm (took b).code (took b).dA (took b).data (took b).ss (took b).rs ∧
    (took b).nm.size ≤ 24 ∧ (took b).code.length ≤ 16384 ∧ (∀ x ∈ (took b).code, 0 ≤ x ∧ x < 4294967296) ∧ (0 ≤ (took b).dA ∧ (took b).dA ≤ great) ∧ (took b).data.length ≤ 4096 ∧
    (∀ x ∈ (took b).data, -9223372036854775808 ≤ x ∧ x < 9223372036854775808) ∧ (took b).ss.length ≤ 256 ∧ (∀ x ∈ (took b).ss, SymFit x) ∧ (took b).rs.length ≤ (took b).code.length ∧ ∀ x ∈ (took b).rs, RelFit x := by
  obtain ⟨hz, hd, hl⟩ := tEnd_ok hb (show (tEnd b (tRels b).2).bad = 0 from h)
  obtain ⟨ar, lr, pr⟩ := tList_ok (enc := relB) (P := RelFit) (fun t ht => tRel_ok hb ht) _ _ hz
  obtain ⟨anr, nr0, nr1⟩ := tCount_ok hb ar.1
  obtain ⟨asy, ls, ps⟩ := tList_ok (enc := symB) (P := SymFit) (fun t ht => tSym_ok hb ht) _ _ anr.1
  obtain ⟨ans, ns0, ns1⟩ := tCount_ok hb asy.1
  obtain ⟨ad, ld, pd⟩ := tList_ok (enc := be8) (P := fun x => -9223372036854775808 ≤ x ∧ x < 9223372036854775808) (fun t ht => tEight_ok hb ht) _ _ ans.1
  obtain ⟨and', nd0, nd1⟩ := tCount_ok hb ad.1
  obtain ⟨adA, d0, d1⟩ := tCount_ok hb and'.1
  obtain ⟨ac, lc, pc⟩ := tList_ok (enc := be4) (P := fun x => 0 ≤ x ∧ x < 4294967296) (fun t ht => tFour_ok hb ht) _ _ adA.1
  obtain ⟨anc, nc0, nc1⟩ := tCount_ok hb ac.1
  obtain ⟨an, ln⟩ := tName_ok hb anc.1
  obtain ⟨bp, be⟩ := tBegin_ok an.1
  have all := ((((((((an.trans anc).trans ac).trans adA).trans and').trans ad).trans ans).trans asy).trans anr).trans ar
  have lc' : (took b).code.length = (tCount b 16384 (tName b (tBegin b [80, 76, 79, 49])).2).1.toNat := lc
  have ld' : (took b).data.length = (tCount b 4096 (tDat b).2).1.toNat := ld
  have ls' : (took b).ss.length = (tCount b 256 (tData b).2).1.toNat := ls
  have lr' : (took b).rs.length = (tCount b (tCode b).1.length (tSyms b).2).1.toNat := lr
  have ec : ((took b).code.length : Int) = (tCount b 16384 (tName b (tBegin b [80, 76, 79, 49])).2).1 := by omega
  have ed : ((took b).data.length : Int) = (tCount b 4096 (tDat b).2).1 := by omega
  have es : ((took b).ss.length : Int) = (tCount b 256 (tData b).2).1 := by omega
  have er : ((took b).rs.length : Int) = (tCount b (tCode b).1.length (tSyms b).2).1 := by omega
  have hbody : b.take (tRels b).2.pos = bodyB (took b).nm (took b).code (took b).dA (took b).data (took b).ss (took b).rs := by
    have e4 := all.2.2
    have hp := all.2.1
    rw [bp] at e4 hp
    have key := take_two (p := [80, 76, 79, 49]) be e4 hp
    unfold bodyB
    rw [ec, ed, es, er]
    refine Eq.trans key ?_
    simp only [List.append_assoc]
    rfl
  refine ⟨?_, ln, by omega, pc, ⟨d0, d1⟩, by omega, pd, by omega, ps, ?_, pr⟩
  · unfold bytesB
    rw [← hbody]
    have := List.take_append_drop (tRels b).2.pos b
    rw [hd] at this
    exact this.symm
  · have : (took b).code.length = (tCode b).1.length := rfl
    omega











end Go.Proofs.Ytbljifaciahdcaa
