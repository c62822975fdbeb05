/-
  Rows of a bag, as a walk wants them; no Go in sight. The program's machine, as it lies in memory. Lists that rise, each number once; no Go in sight. Contracts of the library, laid at this program.
-/
import Derived.Test.YtfnicgihpelhhaaGreatProg
import Derived.WalkKit
import Derived.WalkSpells
import Derived.WalkLawsBesides
import Derived.RowKit3
import Derived.Below
import Derived.Deep.QuietTactic
import Derived.BigQuiet
import Derived.WalkSmall
import Derived.Laws.Rows
import Derived.Deep.AppendLies
import Derived.Laws.OwnMore
import Derived.Test.YtfnicgihpelhhaaGreatPd09
import Derived.Test.YtfnicgihpelhhaaGreatPd01
import Derived.Deep.RegionHeld3
import Derived.Laws.Pointers
import Derived.Outline
import Derived.StillTactics
import Derived.Test.YtfnicgihpelhhaaGreatPd11
import Derived.Test.YtfnicgihpelhhaaGreatPd04
import Derived.Lib.SlicesCompact
import Derived.Lib.RowBridge
import Derived.Test.YtfnicgihpelhhaaGreatPd08
import Derived.Shelf.Sort.Plain
import Derived.Shelf.Slices.Clone
import Derived.Shelf.Slices.CompactI
import Derived.Shelf.Slices.In.SortNone
namespace Go.Proofs.YtfnicgihpelhhaaGreat
open Go.RowKit


theorem Fr.cell {rs : List (Value × Nat)} {w0 w : World} (h : Fr rs w0 w) {a : Addr} {v : Value} (hc : w0.cell? a = some v) (hB : ∀ m, m < rs.length → (rv rs m).ownBlock ≠ some a.block) : w.cell? a = some v :=
  (World.cell?_of_block (h.block a.block (World.block_lt_of_cell? w0 a hc) hB)).trans hc
theorem Fr.refl (rs : List (Value × Nat)) (w : World) : Fr rs w w := ⟨rfl, rfl, rfl, Nat.le_refl _, fun _ _ _ => rfl⟩
/-- A row's value, written out. -/
theorem own_any {w : World} {base : Nat} {e : TypeId} {size : Nat} {v : Value} {n : Nat} {xs : List Value} (h : w.ownsRow base e size v n xs) : ∃ A c, v = .slice A n c ∧ n ≤ c := by
  rcases h.2 with ⟨rfl, rfl⟩ | ⟨g, cap, cur, rfl, _, _, hc, _⟩
  · exact ⟨none, 0, rfl, Nat.le_refl _⟩
  · exact ⟨_, _, rfl, hc⟩
/-- The value at a place of a list of lists. -/
theorem vn_get (l : List Value) (m : Nat) (h : m < l.length) : l[m]? = some (vn l m) := by simp [vn, h]
theorem outer_at {w : World} {TS : TypeId} {A : Option Addr} {n cV : Nat} {l : List Value} (h : w.ownsRow 0 TS 1 (.slice A n cV) n l) (m : Nat) (hm : m < n) : ∃ a, A = some a ∧ w.cell? (a.add m) = some (vn l m) := by
  have hl : l.length = n := by have := h.1; omega
  obtain ⟨g, cap, e, _, _⟩ := h.form (by omega)
  cases e
  exact ⟨_, rfl, h.cells rfl m _ (vn_get l m (by omega))⟩
theorem bag_at {rs : List (Value × Nat)} {w : World} {TS : TypeId} {A : Option Addr} {cV : Nat} (h : w.ownsRow 0 TS 1 (.slice A rs.length cV) rs.length (rs.map Prod.fst)) (m : Nat) (hm : m < rs.length) : ∃ a, A = some a ∧ w.cell? (a.add m) = some (rv rs m) := by
  rw [← vn_map rs m hm]
  exact outer_at h m hm
/-- A cell of a row. -/
theorem row_cell {w : World} {e : TypeId} {size g n c : Nat} {xs : List Value} (h : w.ownsRow 0 e size (.slice (some ⟨g, 0, none⟩) n c) n xs) (j : Nat) (hj : j < n * size) : ∃ u, w.cell? ((⟨g, 0, none⟩ : Addr).add j) = some u :=
  ⟨_, h.cells rfl j _ (List.getElem?_eq_getElem (by rw [h.1]; exact hj))⟩

theorem row_cell0 {w : World} {e : TypeId} {size g n c : Nat} {xs : List Value} (h : w.ownsRow 0 e size (.slice (some ⟨g, 0, none⟩) n c) n xs) (j : Nat) (hj : j < n * size) : ∃ u, w.cell? ⟨g, j, none⟩ = some u := by
  obtain ⟨u, hu⟩ := row_cell h j hj
  rw [Addr.add_lit, Nat.zero_add] at hu
  exact ⟨u, hu⟩
theorem take_set {xs M : List Value} {p : Nat} (h : xs.take p = M) (hp : p < xs.length) (u : Value) : (xs.set p u).take (p + 1) = M ++ [u] := by
  rw [List.take_set, List.take_succ_eq_append_getElem hp, h]
  have hl : M.length = p := by rw [← h, List.length_take]; omega
  rw [List.set_append_right _ _ (by omega), hl, Nat.sub_self]
  rfl
/-- Marks being written, cell by cell. -/
structure Wm (T TS : TypeId) (size : Nat) (mk : Nat → Nat → List Value) (rs : List (Value × Nat)) (V : Value) (w0 w : World) (n i : Nat) : Prop where
  wr : Wr T size mk rs w n i
  bag : w.ownsRow 0 TS 1 V rs.length (rs.map Prod.fst)
  fr : Fr rs w0 w
section
variable {T TS : TypeId} {size : Nat} {mk : Nat → Nat → List Value} {rs : List (Value × Nat)} {V : Value} {w0 w : World} {n i : Nat}
theorem Wm.next (h : Wm T TS size mk rs V w0 w n (rl rs n)) : Wm T TS size mk rs V w0 w (n + 1) 0 := ⟨h.wr.next, h.bag, h.fr⟩
theorem Wm.start (hV : w.ownsRow 0 TS 1 V rs.length (rs.map Prod.fst)) (hR : ∀ m, m < rs.length → ∃ xs, w.ownsRow 0 T size (rv rs m) (rl rs m) xs) : Wm T TS size mk rs V w w 0 0 :=
  ⟨fun m hm => by
    obtain ⟨xs, hx⟩ := hR m hm
    exact ⟨xs, hx, fun h => by omega, fun _ => by simp [marks]⟩, hV, Fr.refl rs w⟩
theorem Wm.row (h : Wm T TS size mk rs V w0 w n i) {m : Nat} (hm : m < rs.length) : ∃ xs, w.ownsRow 0 T size (rv rs m) (rl rs m) xs := by
  obtain ⟨xs, hx, _⟩ := h.wr m hm
  exact ⟨xs, hx⟩
/-- A mark is written. -/
theorem Wm.step {w' : World} (hs : Sep rs) (hT : T ≠ TS) (h : Wm T TS size mk rs V w0 w n i) (hn : n < rs.length) (hg : w.grownBy w' (rv rs n).ownBlock) (ho : ∀ xs, w.ownsRow 0 T size (rv rs n) (rl rs n) xs → xs.take (i * size) = marks mk n i → ∃ ys, w'.ownsRow 0 T size (rv rs n) (rl rs n) ys ∧ ys.take ((i + 1) * size) = marks mk n (i + 1)) : Wm T TS size mk rs V w0 w' n (i + 1) := by
  obtain ⟨xs, hx⟩ := h.row hn
  exact ⟨h.wr.step hs hn hg ho, own_other h.bag hg (own_not hx hT), h.fr.grown hg fun b hb => .inr ⟨n, hn, hb⟩⟩
theorem grown_trans {a b c : World} {row : Option Nat} (h : a.grownBy b row) (k : b.grownBy c row) : a.grownBy c row :=
  ⟨k.os.trans h.os, k.tape.trans h.tape, k.output.trans h.output, Nat.le_trans h.size k.size, fun x hx hn => (k.block x (Nat.lt_of_lt_of_le hx h.size) hn).trans (h.block x hx hn)⟩
theorem Wm.step1 {g c : Nat} {u : Value} (hs : Sep rs) (hT : T ≠ TS) (h : Wm T TS 1 mk rs V w0 w n i) (hn : n < rs.length) (hi : i < rl rs n) (e : rv rs n = .slice (some ⟨g, 0, none⟩) (rl rs n) c) (hu : mk n i = [u]) : Wm T TS 1 mk rs V w0 (w.setCell ⟨g, i, none⟩ u) n (i + 1) := by
  obtain ⟨xs, hx⟩ := h.row hn
  rw [e] at hx
  refine h.step hs hT hn (by rw [e]; exact (hx.stored i u).2) fun xs hx ht => ?_
  rw [e] at hx ⊢
  refine ⟨_, (hx.stored i u).1, ?_⟩
  rw [Nat.mul_one] at ht ⊢
  rw [take_set ht (by rw [hx.1]; omega), marks_succ, hu]
theorem Wm.step2 {g c : Nat} {u v : Value} (hs : Sep rs) (hT : T ≠ TS) (h : Wm T TS 2 mk rs V w0 w n i) (hn : n < rs.length) (hi : i < rl rs n) (e : rv rs n = .slice (some ⟨g, 0, none⟩) (rl rs n) c) (hu : mk n i = [u, v]) : Wm T TS 2 mk rs V w0 ((w.setCell ⟨g, i * 2, none⟩ u).setCell ⟨g, i * 2 + 1, none⟩ v) n (i + 1) := by
  obtain ⟨xs, hx⟩ := h.row hn
  rw [e] at hx
  refine h.step hs hT hn (by rw [e]; exact grown_trans (hx.stored (i * 2) u).2 ((hx.stored (i * 2) u).1.stored (i * 2 + 1) v).2) fun xs hx ht => ?_
  rw [e] at hx ⊢
  refine ⟨_, ((hx.stored (i * 2) u).1.stored (i * 2 + 1) v).1, ?_⟩
  have h1 := take_set ht (by rw [hx.1]; omega) u
  have h2 := take_set h1 (by rw [List.length_set, hx.1]; omega) v
  rw [show (i + 1) * 2 = i * 2 + 1 + 1 by omega, h2, marks_succ, hu, List.append_assoc]
  rfl
theorem Wm.step3 {g c : Nat} {u v x : Value} (hs : Sep rs) (hT : T ≠ TS) (h : Wm T TS 3 mk rs V w0 w n i) (hn : n < rs.length) (hi : i < rl rs n) (e : rv rs n = .slice (some ⟨g, 0, none⟩) (rl rs n) c) (hu : mk n i = [u, v, x]) : Wm T TS 3 mk rs V w0 (((w.setCell ⟨g, i * 3, none⟩ u).setCell ⟨g, i * 3 + 1, none⟩ v).setCell ⟨g, i * 3 + 2, none⟩ x) n (i + 1) := by
  obtain ⟨xs, hx⟩ := h.row hn
  rw [e] at hx
  refine h.step hs hT hn (by rw [e]; exact grown_trans (grown_trans (hx.stored (i * 3) u).2 ((hx.stored (i * 3) u).1.stored (i * 3 + 1) v).2) (((hx.stored (i * 3) u).1.stored (i * 3 + 1) v).1.stored (i * 3 + 2) x).2) fun xs hx ht => ?_
  rw [e] at hx ⊢
  refine ⟨_, (((hx.stored (i * 3) u).1.stored (i * 3 + 1) v).1.stored (i * 3 + 2) x).1, ?_⟩
  have h1 := take_set ht (by rw [hx.1]; omega) u
  have h2 := take_set h1 (by rw [List.length_set, hx.1]; omega) v
  have h3 := take_set h2 (by rw [List.length_set, List.length_set, hx.1]; omega) x
  rw [show (i + 1) * 3 = i * 3 + 1 + 1 + 1 by omega, h3, marks_succ, hu, List.append_assoc, List.append_assoc]
  rfl
theorem Wm.out (hs : Sep rs) (h : Wm T TS size mk rs V w0 w rs.length 0) : Out T TS size mk rs w0 w 0 V (.slice none 0 0) (.slice none 0 0) [] [] := Wr.out hs h.wr h.bag h.fr
/-- A new block is made. -/
theorem Out.alloc {O M : Value} {os ms : List Value} (h : Out T TS size mk rs w0 w n V O M os ms) (o : Obj) : Out T TS size mk rs w0 (w.alloc o) n V O M os ms :=
  h.other (World.grownBy_alloc w o none) (fun b e => by cases e) (fun b e => by cases e) (fun b e => by cases e)
theorem Ap.alloc {O M l : Value} {os ms : List Value} (h : Ap T TS size mk rs w0 w n V O M os ms l i) (o : Obj) : Ap T TS size mk rs w0 (w.alloc o) n V O M os ms l i :=
  ⟨h.out.alloc o, h.cur.alloc o, h.my, h.far, h.safe⟩
/-- What a held row's cells are. -/
theorem own_mark {g L c k j : Nat} (hmk : ∀ n i, (mk n i).length = size) (h : w.ownsRow 0 T size (.slice (some ⟨g, 0, none⟩) L c) L (marks mk k L)) (hi : i < L) (hj : j < size) {u : Value} (hu : (mk k i)[j]? = some u) : w.cell? ⟨g, i * size + j, none⟩ = some u := by
  have := h.cells rfl (i * size + j) u (by rw [marks_get hmk k hi hj]; exact hu)
  rwa [Addr.add_lit, Nat.zero_add] at this
theorem Out.row {O M : Value} {os ms : List Value} (h : Out T TS size mk rs w0 w n V O M os ms) (k : Nat) (hk : k < rs.length) : w.ownsRow 0 T size (rv rs k) (rl rs k) (marks mk k (rl rs k)) := (h.held _ _ _ (.inl ⟨hk, rfl, rfl⟩)).1
theorem Out.ones {O M : Value} {os ms : List Value} (h : Out T TS size mk rs w0 w n V O M os ms) (k : Nat) (hk : k < os.length) : w.ownsRow 0 T size (vn os k) (rl rs k + 1) (marks mk k (rl rs k + 1)) := (h.held _ _ _ (.inr (.inl ⟨hk, rfl, rfl⟩))).1
theorem Out.mores {O M : Value} {os ms : List Value} (h : Out T TS size mk rs w0 w n V O M os ms) (k : Nat) (hk : k < ms.length) : w.ownsRow 0 T size (vn ms k) (rl rs k + 70) (marks mk k (rl rs k + 70)) := (h.held _ _ _ (.inr (.inr ⟨hk, rfl, rfl⟩))).1
end







end Go.Proofs.YtfnicgihpelhhaaGreat

namespace Go.Proofs.YtfnicgihpelhhaaGreat
open Go.RowKit

/-- The cells of words, of ports, of instructions. -/
def wVals (l : List Wd) : List Value := l.flatMap fun x => [.int .i64 x.1, .bool x.2]
def pVals (l : List (Int × Int)) : List Value := l.flatMap fun x => [.int .i64 x.1, .int .i64 x.2]
def nVals (l : List Int) : List Value := l.flatMap fun v => [.int .i8 (dOp v), .int .i8 (dD v), .int .i8 (dA v), .int .i8 (dB v), .int .i64 (dN v)]
theorem wVals_len (l : List Wd) : (wVals l).length = l.length * 2 := by
  induction l with
  | nil => rfl
  | cons x l ih => simp only [wVals, List.flatMap_cons, List.length_append, List.length_cons, List.length_nil] at ih ⊢; omega
theorem pVals_len (l : List (Int × Int)) : (pVals l).length = l.length * 2 := by
  induction l with
  | nil => rfl
  | cons x l ih => simp only [pVals, List.flatMap_cons, List.length_append, List.length_cons, List.length_nil] at ih ⊢; omega
theorem nVals_len (l : List Int) : (nVals l).length = l.length * 5 := by
  induction l with
  | nil => rfl
  | cons x l ih => simp only [nVals, List.flatMap_cons, List.length_append, List.length_cons, List.length_nil] at ih ⊢; omega
theorem wVals_get {l : List Wd} {k : Nat} (h : k < l.length) : (wVals l)[k * 2]? = some (.int .i64 (wV l k)) ∧ (wVals l)[k * 2 + 1]? = some (.bool (wC l k)) := by
  induction l generalizing k with
  | nil => simp at h
  | cons x l ih =>
    cases k with
    | zero => exact ⟨rfl, rfl⟩
    | succ k =>
      obtain ⟨h1, h2⟩ := ih (k := k) (by simpa using h)
      rw [show (k + 1) * 2 = k * 2 + 1 + 1 by omega]
      exact ⟨h1, h2⟩
theorem pVals_get {l : List (Int × Int)} {k : Nat} (h : k < l.length) : (pVals l)[k * 2]? = some (.int .i64 (rAt l k)) ∧ (pVals l)[k * 2 + 1]? = some (.int .i64 (rSym l k)) := by
  induction l generalizing k with
  | nil => simp at h
  | cons x l ih =>
    cases k with
    | zero => exact ⟨rfl, rfl⟩
    | succ k =>
      obtain ⟨h1, h2⟩ := ih (k := k) (by simpa using h)
      rw [show (k + 1) * 2 = k * 2 + 1 + 1 by omega]
      exact ⟨h1, h2⟩
theorem nVals_get {l : List Int} {k : Nat} (h : k < l.length) : (nVals l)[k * 5]? = some (.int .i8 (dOp (nth l k))) ∧ (nVals l)[k * 5 + 1]? = some (.int .i8 (dD (nth l k))) ∧ (nVals l)[k * 5 + 2]? = some (.int .i8 (dA (nth l k))) ∧ (nVals l)[k * 5 + 3]? = some (.int .i8 (dB (nth l k))) ∧ (nVals l)[k * 5 + 4]? = some (.int .i64 (dN (nth l k))) := by
  induction l generalizing k with
  | nil => simp at h
  | cons x l ih =>
    cases k with
    | zero => exact ⟨rfl, rfl, rfl, rfl, rfl⟩
    | succ k =>
      obtain ⟨h1, h2, h3, h4, h5⟩ := ih (k := k) (by simpa using h)
      rw [show (k + 1) * 5 = k * 5 + 1 + 1 + 1 + 1 + 1 by omega]
      exact ⟨h1, h2, h3, h4, h5⟩
theorem wVals_set {l : List Wd} {k : Nat} (x : Wd) : ((wVals l).set (k * 2) (.int .i64 x.1)).set (k * 2 + 1) (.bool x.2) = wVals (l.set k x) := by
  induction l generalizing k with
  | nil => rfl
  | cons y l ih =>
    cases k with
    | zero => rfl
    | succ k =>
      rw [show (k + 1) * 2 = k * 2 + 1 + 1 by omega]
      show Value.int .i64 y.1 :: Value.bool y.2 :: (((wVals l).set (k * 2) _).set (k * 2 + 1) _) = _
      rw [ih]
      rfl
theorem wVals_snoc (l : List Wd) (x : Wd) : wVals (l ++ [x]) = wVals l ++ [.int .i64 x.1, .bool x.2] := by simp [wVals]
theorem pVals_snoc (l : List (Int × Int)) (x : Int × Int) : pVals (l ++ [x]) = pVals l ++ [.int .i64 x.1, .int .i64 x.2] := by simp [pVals]
theorem nVals_snoc (l : List Int) (v : Int) : nVals (l ++ [v]) = nVals l ++ [.int .i8 (dOp v), .int .i8 (dD v), .int .i8 (dA v), .int .i8 (dB v), .int .i64 (dN v)] := by simp [nVals]

/-- Where the lists of a machine lie. -/
structure Loc where
  T : Option Addr
  tc : Nat
  X : Option Addr
  xc : Nat
  M : Option Addr
  mc : Nat
  V : Value
/-- The cells ahead of the registers, and behind them. -/
def hdM (s : Loc) (m : Mach) : List Value := [.slice s.T m.text.length s.tc, .slice s.X m.tape.length s.xc]
def tlM (s : Loc) (m : Mach) : List Value := [.slice s.M m.mem.length s.mc, s.V, .int .i64 m.pc, .int .i64 m.steps, .int .i64 m.taken, .int .i8 m.status]
def boxM (s : Loc) (m : Mach) : Array Value := (hdM s m ++ (wVals m.regs ++ tlM s m)).toArray
/-- A machine of the program's. -/
structure PAt (w : World) (base P : Nat) (s : Loc) (m : Mach) : Prop where
  box : w.heap[P]? = some (.cells (boxM s m) 87 (0, 0))
  bP : base ≤ P
  text : w.ownsRow base 50 5 (.slice s.T m.text.length s.tc) m.text.length (nVals m.text)
  tape : w.ownsRow base 2 1 (.slice s.X m.tape.length s.xc) m.tape.length (iVals .i64 m.tape)
  mem : w.ownsRow base 82 2 (.slice s.M m.mem.length s.mc) m.mem.length (wVals m.mem)
  ports : w.ownsRow base 118 2 s.V m.ports.length (pVals m.ports)
/-- The blocks of a machine. -/
def aB (A : Option Addr) : Option Nat := A.map Addr.block
theorem own_aB (A : Option Addr) (n c : Nat) : (Value.slice A n c).ownBlock = aB A := by cases A <;> rfl
def Foot (s : Loc) (P b : Nat) : Prop := b = P ∨ aB s.T = some b ∨ aB s.X = some b ∨ aB s.M = some b ∨ s.V.ownBlock = some b
/-- Nothing is other but blocks of F, and what is new. -/
structure Upto (F : Nat → Prop) (w w' : World) : Prop where
  os : w'.os = w.os
  tape : w'.tape = w.tape
  output : w'.output = w.output
  size : w.heap.size ≤ w'.heap.size
  block : ∀ b, b < w.heap.size → ¬ F b → w'.heap[b]? = w.heap[b]?
theorem Upto.refl (F : Nat → Prop) (w : World) : Upto F w w := ⟨rfl, rfl, rfl, Nat.le_refl _, fun _ _ _ => rfl⟩
theorem Upto.of {F : Nat → Prop} {w w' : World} (h : Below w.heap.size w w') : Upto F w w' := ⟨h.os, h.tape, h.output, h.size, fun b hb _ => h.block b hb⟩
theorem Upto.trans {F : Nat → Prop} {a b c : World} (h : Upto F a b) (k : Upto F b c) : Upto F a c :=
  ⟨k.os.trans h.os, k.tape.trans h.tape, k.output.trans h.output, Nat.le_trans h.size k.size, fun x hx hn => (k.block x (Nat.lt_of_lt_of_le hx h.size) hn).trans (h.block x hx hn)⟩
/-- Behind a call that may have gone to new blocks. -/
theorem Upto.on {F G : Nat → Prop} {a b c : World} (h : Upto F a b) (k : Upto G b c) (hG : ∀ x, G x → F x ∨ a.heap.size ≤ x) : Upto F a c :=
  ⟨k.os.trans h.os, k.tape.trans h.tape, k.output.trans h.output, Nat.le_trans h.size k.size, fun x hx hn => (k.block x (Nat.lt_of_lt_of_le hx h.size) (fun g => by rcases hG x g with f | f; exact hn f; omega)).trans (h.block x hx hn)⟩
theorem Upto.drew {F : Nat → Prop} {a b : World} (h : Upto F a b) : Upto F a b.drew := ⟨h.os, h.tape, h.output, h.size, h.block⟩
theorem Upto.drewN {F : Nat → Prop} {a b : World} (h : Upto F a b) (n : Nat) : Upto F a (b.drewN n) := ⟨h.os, h.tape, h.output, h.size, h.block⟩
theorem Upto.alloc {F : Nat → Prop} {a b : World} (h : Upto F a b) (o : Obj) : Upto F a (b.alloc o) := h.trans (Upto.of (lb_alloc (Below.refl _ _) o))
theorem Upto.below {F : Nat → Prop} {w0 w w' : World} (h : Upto F w w') (hb : Below w0.heap.size w0 w) (hF : ∀ b, F b → w0.heap.size ≤ b) : Below w0.heap.size w0 w' :=
  ⟨h.os.trans hb.os, h.tape.trans hb.tape, h.output.trans hb.output, Nat.le_trans hb.size h.size, fun b hlt => (h.block b (Nat.lt_of_lt_of_le hlt hb.size) (fun hp => by have := hF b hp; omega)).trans (hb.block b hlt)⟩
theorem own_stay {w w' : World} {base : Nat} {e : TypeId} {size : Nat} {v : Value} {n : Nat} {xs : List Value} (h : w.ownsRow base e size v n xs) (hs : ∀ b, v.ownBlock = some b → w'.heap[b]? = w.heap[b]?) : w'.ownsRow base e size v n xs := by
  refine ⟨h.1, ?_⟩
  rcases h.2 with h1 | ⟨g, cap, cur, rfl, h2, hg, h3⟩
  · exact .inl h1
  · exact .inr ⟨g, cap, cur, rfl, h2, by rw [hs g rfl]; exact hg, h3⟩
theorem own_in {w : World} {base : Nat} {e : TypeId} {size : Nat} {v : Value} {n : Nat} {xs : List Value} (h : w.ownsRow base e size v n xs) {b : Nat} (hb : v.ownBlock = some b) : base ≤ b ∧ b < w.heap.size := h.lt b hb
theorem PAt.lt {w : World} {base P : Nat} {s : Loc} {m : Mach} (h : PAt w base P s m) : P < w.heap.size := (Array.getElem?_eq_some_iff.1 h.box).1
/-- Every block of a machine is one of the memory, from base on. -/
theorem PAt.foot {w : World} {base P : Nat} {s : Loc} {m : Mach} (h : PAt w base P s m) {b : Nat} (hb : Foot s P b) : base ≤ b ∧ b < w.heap.size := by
  rcases hb with rfl | e | e | e | e
  · exact ⟨h.bP, h.lt⟩
  · exact own_in h.text ((own_aB _ _ _).trans e)
  · exact own_in h.tape ((own_aB _ _ _).trans e)
  · exact own_in h.mem ((own_aB _ _ _).trans e)
  · exact own_in h.ports e
/-- A machine stays where its blocks do. -/
theorem PAt.stay {w w' : World} {base P : Nat} {s : Loc} {m : Mach} (h : PAt w base P s m) (hs : ∀ b, Foot s P b → w'.heap[b]? = w.heap[b]?) : PAt w' base P s m :=
  ⟨(hs P (.inl rfl)).trans h.box, h.bP, own_stay h.text fun b e => hs b (.inr (.inl ((own_aB _ _ _).symm.trans e))), own_stay h.tape fun b e => hs b (.inr (.inr (.inl ((own_aB _ _ _).symm.trans e)))), own_stay h.mem fun b e => hs b (.inr (.inr (.inr (.inl ((own_aB _ _ _).symm.trans e))))), own_stay h.ports fun b e => hs b (.inr (.inr (.inr (.inr e))))⟩
theorem PAt.keep {w w' : World} {base P : Nat} {s : Loc} {m : Mach} (h : PAt w base P s m) (hb : Below w.heap.size w w') : PAt w' base P s m := h.stay fun b hf => hb.block b (h.foot hf).2
theorem PAt.other {w w' : World} {base P : Nat} {s : Loc} {m : Mach} {F : Nat → Prop} (h : PAt w base P s m) (hu : Upto F w w') (hd : ∀ b, Foot s P b → ¬ F b) : PAt w' base P s m := h.stay fun b hf => hu.block b (h.foot hf).2 (hd b hf)
theorem PAt.drew {w : World} {base P : Nat} {s : Loc} {m : Mach} (h : PAt w base P s m) : PAt w.drew base P s m := h.stay fun _ _ => rfl
theorem PAt.drewN {w : World} {base P : Nat} {s : Loc} {m : Mach} (h : PAt w base P s m) (n : Nat) : PAt (w.drewN n) base P s m := h.stay fun _ _ => rfl
theorem PAt.alloc {w : World} {base P : Nat} {s : Loc} {m : Mach} (h : PAt w base P s m) (o : Obj) : PAt (w.alloc o) base P s m := h.keep (lb_alloc (Below.refl _ _) o)
section
variable {w : World} {base P : Nat} {s : Loc} {m : Mach}
theorem boxM_hd (s : Loc) (m : Mach) : (boxM s m)[0]? = some (.slice s.T m.text.length s.tc) ∧ (boxM s m)[1]? = some (.slice s.X m.tape.length s.xc) := ⟨by simp [boxM, hdM], by simp [boxM, hdM]⟩
theorem boxM_reg (s : Loc) (m : Mach) (h : m.regs.length = 16) {k : Nat} (hk : k < 16) : (boxM s m)[2 + k * 2]? = some (.int .i64 (wV m.regs k)) ∧ (boxM s m)[2 + k * 2 + 1]? = some (.bool (wC m.regs k)) := by
  obtain ⟨h1, h2⟩ := wVals_get (l := m.regs) (k := k) (by omega)
  have hl := wVals_len m.regs
  have e1 : (boxM s m)[2 + k * 2]? = (wVals m.regs)[k * 2]? := by
    simp only [boxM, List.getElem?_toArray]
    rw [List.getElem?_append_right (by simp [hdM]), List.getElem?_append_left (by simp [hdM]; omega)]
    congr 1; simp [hdM]
  have e2 : (boxM s m)[2 + k * 2 + 1]? = (wVals m.regs)[k * 2 + 1]? := by
    simp only [boxM, List.getElem?_toArray]
    rw [List.getElem?_append_right (by simp [hdM]; omega), List.getElem?_append_left (by simp [hdM]; omega)]
    congr 1; simp [hdM]; omega
  exact ⟨e1.trans h1, e2.trans h2⟩
theorem boxM_tl (s : Loc) (m : Mach) (h : m.regs.length = 16) (k : Nat) : (boxM s m)[34 + k]? = (tlM s m)[k]? := by
  have hl := wVals_len m.regs
  simp only [boxM, List.getElem?_toArray]
  rw [List.getElem?_append_right (by simp [hdM]; omega), List.getElem?_append_right (by simp [hdM]; omega)]
  congr 1; simp [hdM]; omega
theorem box_at {w : World} {B : Nat} {cs : Array Value} {t : TypeId} (h : w.heap[B]? = some (.cells cs t (0, 0))) {i : Nat} {v : Value} (hv : cs[i]? = some v) : w.cell? ⟨B, i, none⟩ = some v := by
  simp [World.cell?, h, hv]
theorem add_at (B o i : Nat) : (⟨B, o, none⟩ : Addr).add i = ⟨B, o + i, none⟩ := by
  unfold Addr.add
  split <;> simp_all
/-- What the cells hold. -/
theorem PAt.cells (h : PAt w base P s m) (hf : m.regs.length = 16) :
    w.cell? ⟨P, 0, none⟩ = some (.slice s.T m.text.length s.tc) ∧ w.cell? ⟨P, 1, none⟩ = some (.slice s.X m.tape.length s.xc) ∧ w.cell? ⟨P, 34, none⟩ = some (.slice s.M m.mem.length s.mc) ∧ w.cell? ⟨P, 35, none⟩ = some s.V ∧
    w.cell? ⟨P, 36, none⟩ = some (.int .i64 m.pc) ∧ w.cell? ⟨P, 37, none⟩ = some (.int .i64 m.steps) ∧ w.cell? ⟨P, 38, none⟩ = some (.int .i64 m.taken) ∧ w.cell? ⟨P, 39, none⟩ = some (.int .i8 m.status) :=
  ⟨box_at h.box (boxM_hd s m).1, box_at h.box (boxM_hd s m).2, box_at h.box (boxM_tl s m hf 0), box_at h.box (boxM_tl s m hf 1), box_at h.box (boxM_tl s m hf 2), box_at h.box (boxM_tl s m hf 3), box_at h.box (boxM_tl s m hf 4), box_at h.box (boxM_tl s m hf 5)⟩
theorem PAt.reg (h : PAt w base P s m) (hf : m.regs.length = 16) {k : Nat} (hk : k < 16) :
    w.cell? ⟨P, 2 + k * 2, none⟩ = some (.int .i64 (wV m.regs k)) ∧ w.cell? ⟨P, 2 + k * 2 + 1, none⟩ = some (.bool (wC m.regs k)) := by
  obtain ⟨h1, h2⟩ := boxM_reg s m hf hk
  exact ⟨box_at h.box h1, box_at h.box h2⟩
theorem PAt.fro (h : PAt w base P s m) (i : Nat) : w.frozen? ⟨P, i, none⟩ = false := box_fro h.box i
end





end Go.Proofs.YtfnicgihpelhhaaGreat

namespace Go.Proofs.YtfnicgihpelhhaaGreat
open Go.RowKit

/-- Two lists that rise and have the same numbers are one. -/
theorem rise_uniq : ∀ {l m : List Int}, l.Pairwise (· < ·) → m.Pairwise (· < ·) → (∀ y, y ∈ l ↔ y ∈ m) → l = m
  | [], [], _, _, _ => rfl
  | [], b :: m, _, _, h => absurd ((h b).2 (by simp)) (by simp)
  | a :: l, [], _, _, h => absurd ((h a).1 (by simp)) (by simp)
  | a :: l, b :: m, hl, hm, h => by
    rw [List.pairwise_cons] at hl hm
    have hab : a = b := by
      have h1 : a ∈ b :: m := (h a).1 (by simp)
      have h2 : b ∈ a :: l := (h b).2 (by simp)
      rw [List.mem_cons] at h1 h2
      rcases h1 with h1 | h1
      · exact h1
      · rcases h2 with h2 | h2
        · exact h2.symm
        · have := hl.1 b h2
          have := hm.1 a h1
          omega
    subst hab
    congr 1
    refine rise_uniq hl.2 hm.2 fun y => ?_
    constructor
    · intro hy
      have h1 : y ∈ a :: m := (h y).1 (List.mem_cons_of_mem _ hy)
      have h2 := hl.1 y hy
      rw [List.mem_cons] at h1
      rcases h1 with rfl | h1
      · omega
      · exact h1
    · intro hy
      have h1 : y ∈ a :: l := (h y).2 (List.mem_cons_of_mem _ hy)
      have h2 := hm.1 y hy
      rw [List.mem_cons] at h1
      rcases h1 with rfl | h1
      · omega
      · exact h1
theorem plc_pair (f : Int → Bool) (n : Nat) : (plcT f n).Pairwise (· < ·) := by
  unfold plcT
  rw [List.pairwise_map]
  exact (List.pairwise_lt_range.filter _).imp (fun {a b} h => by omega)
theorem plc_uniq {f : Int → Bool} {n : Nat} {l : List Int} (hl : l.Pairwise (· < ·)) (h : ∀ y, y ∈ l ↔ 0 ≤ y ∧ y < n ∧ f y = true) : l = plcT f n :=
  rise_uniq hl (plc_pair f n) fun y => by rw [h y, plcT_mem]
/-- What is left of a list that rises, each number once. -/
theorem compact_rise {zs : List Int} (h : zs.Pairwise (· ≤ ·)) : (Lib.compact zs).Pairwise (· < ·) ∧ ∀ y, y ∈ Lib.compact zs ↔ y ∈ zs := by
  have hget : ∀ i, i < zs.length → zs.toArray[i]! = zs.getD i 0 := fun i hi => by
    simp [List.getD, hi]
  have hle : ∀ i j, i ≤ j → j < zs.length → zs.getD i 0 ≤ zs.getD j 0 := fun i j hij hj => by
    by_cases e : i = j
    · subst e; exact Int.le_refl _
    · rw [List.pairwise_iff_getElem] at h
      have := h i j (by omega) hj (by omega)
      simpa [List.getD, hj, show i < zs.length by omega] using this
  have key : ∀ m, m ≤ zs.length → (Lib.compactUpTo zs.toArray m).Pairwise (· < ·) ∧ (∀ y, y ∈ Lib.compactUpTo zs.toArray m ↔ ∃ i, i < m ∧ zs.getD i 0 = y) := by
    intro m
    induction m with
    | zero => exact fun _ => ⟨by simp [Lib.compactUpTo], fun y => by simp [Lib.compactUpTo]⟩
    | succ m ih =>
      intro hm
      obtain ⟨i1, i2⟩ := ih (by omega)
      rw [Lib.compactUpTo_succ]
      by_cases hk : Lib.keeps zs.toArray m = true
      · rw [if_pos hk, hget m (by omega)]
        constructor
        · rw [List.pairwise_append]
          refine ⟨i1, by simp, fun x hx y hy => ?_⟩
          rw [List.mem_singleton] at hy
          subst hy
          obtain ⟨i, hi, rfl⟩ := (i2 x).1 hx
          unfold Lib.keeps at hk
          rw [decide_eq_true_eq] at hk
          rcases hk with rfl | hk
          · omega
          · rw [hget m (by omega), hget (m - 1) (by omega)] at hk
            have h1 := hle i (m - 1) (by omega) (by omega)
            have h2 := hle (m - 1) m (by omega) (by omega)
            omega
        · intro y
          rw [List.mem_append, i2, List.mem_singleton]
          constructor
          · rintro (⟨i, hi, e⟩ | rfl)
            · exact ⟨i, by omega, e⟩
            · exact ⟨m, by omega, rfl⟩
          · rintro ⟨i, hi, e⟩
            by_cases him : i = m
            · subst him; exact .inr e.symm
            · exact .inl ⟨i, by omega, e⟩
      · have hk' : Lib.keeps zs.toArray m = false := by simpa using hk
        rw [if_neg hk, List.append_nil]
        refine ⟨i1, fun y => ?_⟩
        rw [i2]
        unfold Lib.keeps at hk'
        rw [decide_eq_false_iff_not] at hk'
        have hm0 : m ≠ 0 := fun e => hk' (.inl e)
        have he : zs.getD m 0 = zs.getD (m - 1) 0 := by
          rw [← hget m (by omega), ← hget (m - 1) (by omega)]
          exact Decidable.byContradiction fun e => hk' (.inr e)
        constructor
        · rintro ⟨i, hi, e⟩
          exact ⟨i, by omega, e⟩
        · rintro ⟨i, hi, e⟩
          by_cases him : i = m
          · subst him; exact ⟨i - 1, by omega, by rw [← he]; exact e⟩
          · exact ⟨i, by omega, e⟩
  obtain ⟨k1, k2⟩ := key zs.length (Nat.le_refl _)
  refine ⟨k1, fun y => ?_⟩
  show y ∈ Lib.compactUpTo zs.toArray zs.length ↔ _
  rw [k2, List.mem_iff_getElem]
  constructor
  · rintro ⟨i, hi, e⟩
    exact ⟨i, hi, by simpa [List.getD, hi] using e⟩
  · rintro ⟨i, hi, e⟩
    exact ⟨i, hi, by simpa [List.getD, hi] using e⟩
/-- What rising tells. -/
def risZ (zs : List Int) : List Int := Lib.compact (zs.mergeSort fun x y => decide (x ≤ y))
theorem ris_rise (zs : List Int) : (risZ zs).Pairwise (· < ·) ∧ ∀ y, y ∈ risZ zs ↔ y ∈ zs := by
  have hs : (zs.mergeSort fun x y => decide (x ≤ y)).Pairwise (· ≤ ·) := by
    have := List.pairwise_mergeSort (le := fun x y : Int => decide (x ≤ y)) (fun a b c h1 h2 => by simp at h1 h2 ⊢; omega) (fun a b => by simp; omega) zs
    exact this.imp fun {a b} h => by simpa using h
  obtain ⟨h1, h2⟩ := compact_rise hs
  exact ⟨h1, fun y => by
    show y ∈ Lib.compact _ ↔ _
    rw [h2, List.mem_mergeSort]⟩
theorem ris_plc {zs : List Int} {f : Int → Bool} {n : Nat} (h : ∀ y, y ∈ zs ↔ 0 ≤ y ∧ y < n ∧ f y = true) : risZ zs = plcT f n :=
  plc_uniq (ris_rise zs).1 fun y => by rw [(ris_rise zs).2, h]
theorem ris_len (zs : List Int) : (risZ zs).length ≤ zs.length := by
  unfold risZ
  have h1 := Lib.compact_length_le (zs.mergeSort fun x y => decide (x ≤ y))
  have h2 : (zs.mergeSort fun x y => decide (x ≤ y)).length = zs.length := List.length_mergeSort zs
  omega


end Go.Proofs.YtfnicgihpelhhaaGreat

namespace Go.Proofs
open Go.Shelf
def Tryz.layC_ren : Go.Shelf.Ren := ⟨fun | 15 => 88 | n => n, fun | 22 => 72 | 3 => 3 | 4 => 4 | n => n, fun | n => n⟩
theorem Tryz.layC : Go.Proofs.Lays2.n15 Tryz.prog Tryz.layC_ren := {
  mixed := by kernel_rfl
  f15 := Tryz.func88.trans (congrArg some (by kernel_rfl))
  t3 := Tryz.underlying3
  a3 := Tryz.isAgg3
  z3 := Tryz.sizeOf3
  v3 := Tryz.zeroValue3
  t4 := Tryz.underlying4
  a4 := Tryz.isAgg4
  z4 := Tryz.sizeOf4
  v4 := Tryz.zeroValue4
  t22 := Tryz.underlying72
  a22 := Tryz.isAgg72
  z22 := Tryz.sizeOf72
  v22 := Tryz.zeroValue72
  i3 := by kernel_rfl
}
def Tryz.layS_ren : Go.Shelf.Ren := ⟨fun | 189 => 126 | 125 => 131 | 257 => 130 | 128 => 151 | 129 => 152 | 294 => 142 | 295 => 143 | 296 => 144 | 297 => 145 | 298 => 146 | 299 => 147 | 216 => 148 | 300 => 149 | 301 => 150 | 328 => 153 | 329 => 154 | 330 => 155 | 331 => 156 | 332 => 157 | 215 => 158 | 343 => 159 | n => n, fun | 28 => 72 | 3 => 3 | 46 => 95 | 0 => 0 | 51 => 45 | 53 => 188 | 4 => 4 | 183 => 180 | 182 => 179 | 131 => 51 | 5 => 5 | 9 => 9 | 218 => 189 | 222 => 193 | 228 => 195 | 229 => 196 | n => n, fun | n => n⟩
theorem Tryz.layS : Go.Proofs.Lays.n189 Tryz.prog Tryz.layS_ren := {
  mixed := by kernel_rfl
  f125 := Tryz.func131.trans (congrArg some (by kernel_rfl))
  f128 := Tryz.func151.trans (congrArg some (by kernel_rfl))
  f129 := Tryz.func152.trans (congrArg some (by kernel_rfl))
  f189 := Tryz.func126.trans (congrArg some (by kernel_rfl))
  f215 := Tryz.func158.trans (congrArg some (by kernel_rfl))
  f216 := Tryz.func148.trans (congrArg some (by kernel_rfl))
  f257 := Tryz.func130.trans (congrArg some (by kernel_rfl))
  f294 := Tryz.func142.trans (congrArg some (by kernel_rfl))
  f295 := Tryz.func143.trans (congrArg some (by kernel_rfl))
  f296 := Tryz.func144.trans (congrArg some (by kernel_rfl))
  f297 := Tryz.func145.trans (congrArg some (by kernel_rfl))
  f298 := Tryz.func146.trans (congrArg some (by kernel_rfl))
  f299 := Tryz.func147.trans (congrArg some (by kernel_rfl))
  f300 := Tryz.func149.trans (congrArg some (by kernel_rfl))
  f301 := Tryz.func150.trans (congrArg some (by kernel_rfl))
  f328 := Tryz.func153.trans (congrArg some (by kernel_rfl))
  f329 := Tryz.func154.trans (congrArg some (by kernel_rfl))
  f330 := Tryz.func155.trans (congrArg some (by kernel_rfl))
  f331 := Tryz.func156.trans (congrArg some (by kernel_rfl))
  f332 := Tryz.func157.trans (congrArg some (by kernel_rfl))
  f343 := Tryz.func159.trans (congrArg some (by kernel_rfl))
  t0 := Tryz.underlying0
  a0 := Tryz.isAgg0
  z0 := Tryz.sizeOf0
  v0 := Tryz.zeroValue0
  t3 := Tryz.underlying3
  a3 := Tryz.isAgg3
  z3 := Tryz.sizeOf3
  v3 := Tryz.zeroValue3
  t4 := Tryz.underlying4
  a4 := Tryz.isAgg4
  z4 := Tryz.sizeOf4
  v4 := Tryz.zeroValue4
  t5 := Tryz.underlying5
  a5 := Tryz.isAgg5
  z5 := Tryz.sizeOf5
  v5 := Tryz.zeroValue5
  t9 := Tryz.underlying9
  a9 := Tryz.isAgg9
  z9 := Tryz.sizeOf9
  v9 := Tryz.zeroValue9
  t28 := Tryz.underlying72
  a28 := Tryz.isAgg72
  z28 := Tryz.sizeOf72
  v28 := Tryz.zeroValue72
  t46 := Tryz.underlying95
  a46 := Tryz.isAgg95
  z46 := Tryz.sizeOf95
  v46 := Tryz.zeroValue95
  t51 := Tryz.underlying45
  a51 := Tryz.isAgg45
  z51 := Tryz.sizeOf45
  v51 := Tryz.zeroValue45
  t53 := Tryz.underlying188
  a53 := Tryz.isAgg188
  z53 := Tryz.sizeOf188
  v53 := Tryz.zeroValue188
  t131 := Tryz.underlying51
  a131 := Tryz.isAgg51
  z131 := Tryz.sizeOf51
  v131 := Tryz.zeroValue51
  t182 := Tryz.underlying179
  a182 := Tryz.isAgg179
  z182 := Tryz.sizeOf179
  v182 := Tryz.zeroValue179
  t183 := Tryz.underlying180
  a183 := Tryz.isAgg180
  z183 := Tryz.sizeOf180
  v183 := Tryz.zeroValue180
  t218 := Tryz.underlying189
  a218 := Tryz.isAgg189
  z218 := Tryz.sizeOf189
  v218 := Tryz.zeroValue189
  t222 := Tryz.underlying193
  a222 := Tryz.isAgg193
  z222 := Tryz.sizeOf193
  v222 := Tryz.zeroValue193
  t228 := Tryz.underlying195
  a228 := Tryz.isAgg195
  z228 := Tryz.sizeOf195
  v228 := Tryz.zeroValue195
  t229 := Tryz.underlying196
  a229 := Tryz.isAgg196
  z229 := Tryz.sizeOf196
  v229 := Tryz.zeroValue196
}
def Tryz.layK_ren : Go.Shelf.Ren := ⟨fun | 20 => 127 | n => n, fun | 22 => 72 | 3 => 3 | 4 => 4 | 0 => 0 | n => n, fun | n => n⟩
theorem Tryz.layK : Go.Proofs.Lays2.n20 Tryz.prog Tryz.layK_ren := {
  mixed := by kernel_rfl
  f20 := Tryz.func127.trans (congrArg some (by kernel_rfl))
  t0 := Tryz.underlying0
  a0 := Tryz.isAgg0
  z0 := Tryz.sizeOf0
  v0 := Tryz.zeroValue0
  t3 := Tryz.underlying3
  a3 := Tryz.isAgg3
  z3 := Tryz.sizeOf3
  v3 := Tryz.zeroValue3
  t4 := Tryz.underlying4
  a4 := Tryz.isAgg4
  z4 := Tryz.sizeOf4
  v4 := Tryz.zeroValue4
  t22 := Tryz.underlying72
  a22 := Tryz.isAgg72
  z22 := Tryz.sizeOf72
  v22 := Tryz.zeroValue72
  i3 := by kernel_rfl
}
end Go.Proofs
