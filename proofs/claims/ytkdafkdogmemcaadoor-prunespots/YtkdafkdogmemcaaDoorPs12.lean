/-
  Rows of a bag, as a walk wants them; no Go in sight. A taker in memory, and worlds that part in its block alone; no Go in sight. An output in memory: its box and its own row of bytes; no Go in sight. The program writes numbers and texts into an output; what is written is at most 2^20 bytes.
-/
import Derived.Test.YtkdafkdogmemcaaDoorProg
import Derived.WalkKit
import Derived.WalkSpells
import Derived.WalkLawsBesides
import Derived.RowKit3
import Derived.Below
import Derived.Deep.QuietTactic
import Derived.BigQuiet
import Derived.WalkSmall
import Derived.Laws.Rows
import Derived.Deep.AppendLies
import Derived.Laws.OwnMore
import Derived.Test.YtkdafkdogmemcaaDoorPs11
import Derived.Test.YtkdafkdogmemcaaDoorPs01
import Derived.Test.YtkdafkdogmemcaaDoorPs02
import Derived.Lib.AppendStr
namespace Go.Proofs.YtkdafkdogmemcaaDoor
open Go.RowKit


theorem Fr.cell {rs : List (Value × Nat)} {w0 w : World} (h : Fr rs w0 w) {a : Addr} {v : Value} (hc : w0.cell? a = some v) (hB : ∀ m, m < rs.length → (rv rs m).ownBlock ≠ some a.block) : w.cell? a = some v :=
  (World.cell?_of_block (h.block a.block (World.block_lt_of_cell? w0 a hc) hB)).trans hc
theorem Fr.refl (rs : List (Value × Nat)) (w : World) : Fr rs w w := ⟨rfl, rfl, rfl, Nat.le_refl _, fun _ _ _ => rfl⟩
/-- A row's value, written out. -/
theorem own_any {w : World} {base : Nat} {e : TypeId} {size : Nat} {v : Value} {n : Nat} {xs : List Value} (h : w.ownsRow base e size v n xs) : ∃ A c, v = .slice A n c ∧ n ≤ c := by
  rcases h.2 with ⟨rfl, rfl⟩ | ⟨g, cap, cur, rfl, _, _, hc, _⟩
  · exact ⟨none, 0, rfl, Nat.le_refl _⟩
  · exact ⟨_, _, rfl, hc⟩
/-- The value at a place of a list of lists. -/
theorem vn_get (l : List Value) (m : Nat) (h : m < l.length) : l[m]? = some (vn l m) := by simp [vn, h]
theorem outer_at {w : World} {TS : TypeId} {A : Option Addr} {n cV : Nat} {l : List Value} (h : w.ownsRow 0 TS 1 (.slice A n cV) n l) (m : Nat) (hm : m < n) : ∃ a, A = some a ∧ w.cell? (a.add m) = some (vn l m) := by
  have hl : l.length = n := by have := h.1; omega
  obtain ⟨g, cap, e, _, _⟩ := h.form (by omega)
  cases e
  exact ⟨_, rfl, h.cells rfl m _ (vn_get l m (by omega))⟩
theorem bag_at {rs : List (Value × Nat)} {w : World} {TS : TypeId} {A : Option Addr} {cV : Nat} (h : w.ownsRow 0 TS 1 (.slice A rs.length cV) rs.length (rs.map Prod.fst)) (m : Nat) (hm : m < rs.length) : ∃ a, A = some a ∧ w.cell? (a.add m) = some (rv rs m) := by
  rw [← vn_map rs m hm]
  exact outer_at h m hm
/-- A cell of a row. -/
theorem row_cell {w : World} {e : TypeId} {size g n c : Nat} {xs : List Value} (h : w.ownsRow 0 e size (.slice (some ⟨g, 0, none⟩) n c) n xs) (j : Nat) (hj : j < n * size) : ∃ u, w.cell? ((⟨g, 0, none⟩ : Addr).add j) = some u :=
  ⟨_, h.cells rfl j _ (List.getElem?_eq_getElem (by rw [h.1]; exact hj))⟩

theorem row_cell0 {w : World} {e : TypeId} {size g n c : Nat} {xs : List Value} (h : w.ownsRow 0 e size (.slice (some ⟨g, 0, none⟩) n c) n xs) (j : Nat) (hj : j < n * size) : ∃ u, w.cell? ⟨g, j, none⟩ = some u := by
  obtain ⟨u, hu⟩ := row_cell h j hj
  rw [Addr.add_lit, Nat.zero_add] at hu
  exact ⟨u, hu⟩
theorem take_set {xs M : List Value} {p : Nat} (h : xs.take p = M) (hp : p < xs.length) (u : Value) : (xs.set p u).take (p + 1) = M ++ [u] := by
  rw [List.take_set, List.take_succ_eq_append_getElem hp, h]
  have hl : M.length = p := by rw [← h, List.length_take]; omega
  rw [List.set_append_right _ _ (by omega), hl, Nat.sub_self]
  rfl
/-- Marks being written, cell by cell. -/
structure Wm (T TS : TypeId) (size : Nat) (mk : Nat → Nat → List Value) (rs : List (Value × Nat)) (V : Value) (w0 w : World) (n i : Nat) : Prop where
  wr : Wr T size mk rs w n i
  bag : w.ownsRow 0 TS 1 V rs.length (rs.map Prod.fst)
  fr : Fr rs w0 w
section
variable {T TS : TypeId} {size : Nat} {mk : Nat → Nat → List Value} {rs : List (Value × Nat)} {V : Value} {w0 w : World} {n i : Nat}
theorem Wm.next (h : Wm T TS size mk rs V w0 w n (rl rs n)) : Wm T TS size mk rs V w0 w (n + 1) 0 := ⟨h.wr.next, h.bag, h.fr⟩
theorem Wm.start (hV : w.ownsRow 0 TS 1 V rs.length (rs.map Prod.fst)) (hR : ∀ m, m < rs.length → ∃ xs, w.ownsRow 0 T size (rv rs m) (rl rs m) xs) : Wm T TS size mk rs V w w 0 0 :=
  ⟨fun m hm => by
    obtain ⟨xs, hx⟩ := hR m hm
    exact ⟨xs, hx, fun h => by omega, fun _ => by simp [marks]⟩, hV, Fr.refl rs w⟩
theorem Wm.row (h : Wm T TS size mk rs V w0 w n i) {m : Nat} (hm : m < rs.length) : ∃ xs, w.ownsRow 0 T size (rv rs m) (rl rs m) xs := by
  obtain ⟨xs, hx, _⟩ := h.wr m hm
  exact ⟨xs, hx⟩
/-- A mark is written. -/
theorem Wm.step {w' : World} (hs : Sep rs) (hT : T ≠ TS) (h : Wm T TS size mk rs V w0 w n i) (hn : n < rs.length) (hg : w.grownBy w' (rv rs n).ownBlock) (ho : ∀ xs, w.ownsRow 0 T size (rv rs n) (rl rs n) xs → xs.take (i * size) = marks mk n i → ∃ ys, w'.ownsRow 0 T size (rv rs n) (rl rs n) ys ∧ ys.take ((i + 1) * size) = marks mk n (i + 1)) : Wm T TS size mk rs V w0 w' n (i + 1) := by
  obtain ⟨xs, hx⟩ := h.row hn
  exact ⟨h.wr.step hs hn hg ho, own_other h.bag hg (own_not hx hT), h.fr.grown hg fun b hb => .inr ⟨n, hn, hb⟩⟩
theorem grown_trans {a b c : World} {row : Option Nat} (h : a.grownBy b row) (k : b.grownBy c row) : a.grownBy c row :=
  ⟨k.os.trans h.os, k.tape.trans h.tape, k.output.trans h.output, Nat.le_trans h.size k.size, fun x hx hn => (k.block x (Nat.lt_of_lt_of_le hx h.size) hn).trans (h.block x hx hn)⟩
theorem Wm.step1 {g c : Nat} {u : Value} (hs : Sep rs) (hT : T ≠ TS) (h : Wm T TS 1 mk rs V w0 w n i) (hn : n < rs.length) (hi : i < rl rs n) (e : rv rs n = .slice (some ⟨g, 0, none⟩) (rl rs n) c) (hu : mk n i = [u]) : Wm T TS 1 mk rs V w0 (w.setCell ⟨g, i, none⟩ u) n (i + 1) := by
  obtain ⟨xs, hx⟩ := h.row hn
  rw [e] at hx
  refine h.step hs hT hn (by rw [e]; exact (hx.stored i u).2) fun xs hx ht => ?_
  rw [e] at hx ⊢
  refine ⟨_, (hx.stored i u).1, ?_⟩
  rw [Nat.mul_one] at ht ⊢
  rw [take_set ht (by rw [hx.1]; omega), marks_succ, hu]
theorem Wm.step2 {g c : Nat} {u v : Value} (hs : Sep rs) (hT : T ≠ TS) (h : Wm T TS 2 mk rs V w0 w n i) (hn : n < rs.length) (hi : i < rl rs n) (e : rv rs n = .slice (some ⟨g, 0, none⟩) (rl rs n) c) (hu : mk n i = [u, v]) : Wm T TS 2 mk rs V w0 ((w.setCell ⟨g, i * 2, none⟩ u).setCell ⟨g, i * 2 + 1, none⟩ v) n (i + 1) := by
  obtain ⟨xs, hx⟩ := h.row hn
  rw [e] at hx
  refine h.step hs hT hn (by rw [e]; exact grown_trans (hx.stored (i * 2) u).2 ((hx.stored (i * 2) u).1.stored (i * 2 + 1) v).2) fun xs hx ht => ?_
  rw [e] at hx ⊢
  refine ⟨_, ((hx.stored (i * 2) u).1.stored (i * 2 + 1) v).1, ?_⟩
  have h1 := take_set ht (by rw [hx.1]; omega) u
  have h2 := take_set h1 (by rw [List.length_set, hx.1]; omega) v
  rw [show (i + 1) * 2 = i * 2 + 1 + 1 by omega, h2, marks_succ, hu, List.append_assoc]
  rfl
theorem Wm.step3 {g c : Nat} {u v x : Value} (hs : Sep rs) (hT : T ≠ TS) (h : Wm T TS 3 mk rs V w0 w n i) (hn : n < rs.length) (hi : i < rl rs n) (e : rv rs n = .slice (some ⟨g, 0, none⟩) (rl rs n) c) (hu : mk n i = [u, v, x]) : Wm T TS 3 mk rs V w0 (((w.setCell ⟨g, i * 3, none⟩ u).setCell ⟨g, i * 3 + 1, none⟩ v).setCell ⟨g, i * 3 + 2, none⟩ x) n (i + 1) := by
  obtain ⟨xs, hx⟩ := h.row hn
  rw [e] at hx
  refine h.step hs hT hn (by rw [e]; exact grown_trans (grown_trans (hx.stored (i * 3) u).2 ((hx.stored (i * 3) u).1.stored (i * 3 + 1) v).2) (((hx.stored (i * 3) u).1.stored (i * 3 + 1) v).1.stored (i * 3 + 2) x).2) fun xs hx ht => ?_
  rw [e] at hx ⊢
  refine ⟨_, (((hx.stored (i * 3) u).1.stored (i * 3 + 1) v).1.stored (i * 3 + 2) x).1, ?_⟩
  have h1 := take_set ht (by rw [hx.1]; omega) u
  have h2 := take_set h1 (by rw [List.length_set, hx.1]; omega) v
  have h3 := take_set h2 (by rw [List.length_set, List.length_set, hx.1]; omega) x
  rw [show (i + 1) * 3 = i * 3 + 1 + 1 + 1 by omega, h3, marks_succ, hu, List.append_assoc, List.append_assoc]
  rfl
theorem Wm.out (hs : Sep rs) (h : Wm T TS size mk rs V w0 w rs.length 0) : Out T TS size mk rs w0 w 0 V (.slice none 0 0) (.slice none 0 0) [] [] := Wr.out hs h.wr h.bag h.fr
/-- A new block is made. -/
theorem Out.alloc {O M : Value} {os ms : List Value} (h : Out T TS size mk rs w0 w n V O M os ms) (o : Obj) : Out T TS size mk rs w0 (w.alloc o) n V O M os ms :=
  h.other (World.grownBy_alloc w o none) (fun b e => by cases e) (fun b e => by cases e) (fun b e => by cases e)
theorem Ap.alloc {O M l : Value} {os ms : List Value} (h : Ap T TS size mk rs w0 w n V O M os ms l i) (o : Obj) : Ap T TS size mk rs w0 (w.alloc o) n V O M os ms l i :=
  ⟨h.out.alloc o, h.cur.alloc o, h.my, h.far, h.safe⟩
/-- What a held row's cells are. -/
theorem own_mark {g L c k j : Nat} (hmk : ∀ n i, (mk n i).length = size) (h : w.ownsRow 0 T size (.slice (some ⟨g, 0, none⟩) L c) L (marks mk k L)) (hi : i < L) (hj : j < size) {u : Value} (hu : (mk k i)[j]? = some u) : w.cell? ⟨g, i * size + j, none⟩ = some u := by
  have := h.cells rfl (i * size + j) u (by rw [marks_get hmk k hi hj]; exact hu)
  rwa [Addr.add_lit, Nat.zero_add] at this
theorem Out.row {O M : Value} {os ms : List Value} (h : Out T TS size mk rs w0 w n V O M os ms) (k : Nat) (hk : k < rs.length) : w.ownsRow 0 T size (rv rs k) (rl rs k) (marks mk k (rl rs k)) := (h.held _ _ _ (.inl ⟨hk, rfl, rfl⟩)).1
theorem Out.ones {O M : Value} {os ms : List Value} (h : Out T TS size mk rs w0 w n V O M os ms) (k : Nat) (hk : k < os.length) : w.ownsRow 0 T size (vn os k) (rl rs k + 1) (marks mk k (rl rs k + 1)) := (h.held _ _ _ (.inr (.inl ⟨hk, rfl, rfl⟩))).1
theorem Out.mores {O M : Value} {os ms : List Value} (h : Out T TS size mk rs w0 w n V O M os ms) (k : Nat) (hk : k < ms.length) : w.ownsRow 0 T size (vn ms k) (rl rs k + 70) (marks mk k (rl rs k + 70)) := (h.held _ _ _ (.inr (.inr ⟨hk, rfl, rfl⟩))).1
end








end Go.Proofs.YtkdafkdogmemcaaDoor

namespace Go.Proofs.YtkdafkdogmemcaaDoor
open Go.RowKit

theorem But.setAt {g : Nat} {a b : World} (h : But g a b) (i : Nat) (v : Value) : But g a (b.setCell ⟨g, i, none⟩ v) := h.set i v
/-- A taker: its bytes, where it stands, what is wrong. -/
def TkAt (w : World) (g : Nat) (A : Option Addr) (n c : Nat) (t : Tk) : Prop :=
  (w.cell? ⟨g, 0, none⟩ = some (.slice A n c) ∧ w.cell? ⟨g, 1, none⟩ = some (.int .i64 t.pos) ∧ w.cell? ⟨g, 2, none⟩ = some (.int .i64 t.bad) ∧ w.cell? ⟨g, 3, none⟩ = some (.int .i64 t.place)) ∧ ∀ i, w.frozen? ⟨g, i, none⟩ = false
theorem TkAt.keep {w w' : World} {g : Nat} {A : Option Addr} {n c : Nat} {t : Tk} (h : TkAt w g A n c t) (hb : Below w.heap.size w w') : TkAt w' g A n c t :=
  ⟨⟨lkeep hb h.1.1, lkeep hb h.1.2.1, lkeep hb h.1.2.2.1, lkeep hb h.1.2.2.2⟩, fun i => by
    have hl : g < w.heap.size := World.block_lt_of_cell? w ⟨g, 0, none⟩ h.1.1
    rw [hb.frozen (p := ⟨g, i, none⟩) hl]; exact h.2 i⟩
theorem TkAt.drewN {w : World} {g : Nat} {A : Option Addr} {n c : Nat} {t : Tk} (h : TkAt w g A n c t) (k : Nat) : TkAt (w.drewN k) g A n c t := h
theorem TkAt.posTo {w : World} {g : Nat} {A : Option Addr} {n c : Nat} {t : Tk} (h : TkAt w g A n c t) (p : Nat) : TkAt (w.setCell ⟨g, 1, none⟩ (.int .i64 p)) g A n c ⟨p, t.bad, t.place⟩ := by
  refine ⟨⟨?_, ?_, ?_, ?_⟩, fun i => ?_⟩
  · rw [← h.1.1]; simp [go_sem]
  · simp [go_sem, h.1.2.1]
  · rw [← h.1.2.2.1]; simp [go_sem]
  · rw [← h.1.2.2.2]; simp [go_sem]
  · rw [← h.2 i]; simp [go_sem]
theorem TkAt.wrongTo {w : World} {g : Nat} {A : Option Addr} {n c : Nat} {t : Tk} (h : TkAt w g A n c t) (e p : Int) : TkAt ((w.setCell ⟨g, 2, none⟩ (.int .i64 e)).setCell ⟨g, 3, none⟩ (.int .i64 p)) g A n c ⟨t.pos, e, p⟩ := by
  refine ⟨⟨?_, ?_, ?_, ?_⟩, fun i => ?_⟩
  · rw [← h.1.1]; simp [go_sem]
  · rw [← h.1.2.1]; simp [go_sem]
  · simp [go_sem, h.1.2.2.1]
  · simp [go_sem, h.1.2.2.2]
  · rw [← h.2 i]; simp [go_sem]








end Go.Proofs.YtkdafkdogmemcaaDoor

namespace Go.Proofs.YtkdafkdogmemcaaDoor
open Go.RowKit


/-- Bytes as cells. -/
def bNews (l : List Int) : List Value := l.map (Value.int .u8)
theorem bNews_len (l : List Int) : (bNews l).length = l.length := by simp [bNews]
theorem bNews_one (l : List Int) : ∀ u ∈ bNews l, u.oneCell' = true := fun u hu => by
  unfold bNews at hu
  obtain ⟨x, _, rfl⟩ := List.mem_map.1 hu
  rfl
theorem bNews_app (l r : List Int) : bNews l ++ bNews r = bNews (l ++ r) := by simp [bNews]
theorem be4_mod (x : Int) : be4 (x % 4294967296) = be4 x := by
  simp only [be4, List.cons.injEq, and_true]
  omega
/-- No row of bytes. -/
def NoB (w : World) (k : Nat) : Prop := ∀ cur, w.heap[k]? ≠ some (.cells cur 5 (0, 0))
/-- Nothing is other but the box g and rows of bytes behind it. -/
structure OutTo (g : Nat) (w w' : World) : Prop where
  os : w'.os = w.os
  tape : w'.tape = w.tape
  output : w'.output = w.output
  size : w.heap.size ≤ w'.heap.size
  block : ∀ k, k < w.heap.size → k ≠ g → (k < g ∨ NoB w k) → w'.heap[k]? = w.heap[k]?
theorem OutTo.refl (g : Nat) (w : World) : OutTo g w w := ⟨rfl, rfl, rfl, Nat.le_refl _, fun _ _ _ _ => rfl⟩
theorem OutTo.trans {g : Nat} {w w1 w2 : World} (h : OutTo g w w1) (k : OutTo g w1 w2) : OutTo g w w2 := by
  refine ⟨k.os.trans h.os, k.tape.trans h.tape, k.output.trans h.output, Nat.le_trans h.size k.size, fun i hi hg hr => ?_⟩
  have e := h.block i hi hg hr
  refine (k.block i (Nat.lt_of_lt_of_le hi h.size) hg ?_).trans e
  rcases hr with hr | hr
  · exact Or.inl hr
  · exact Or.inr fun cur => by rw [e]; exact hr cur
theorem OutTo.of {g : Nat} {w w1 : World} (hb : Below w.heap.size w w1) : OutTo g w w1 := ⟨hb.os, hb.tape, hb.output, hb.size, fun i hi _ _ => hb.block i hi⟩
theorem OutTo.below {g : Nat} {w w1 : World} (hg : g < w.heap.size) (k : OutTo g w w1) : Below g w w1 :=
  ⟨k.os, k.tape, k.output, k.size, fun i hi => k.block i (by omega) (by omega) (Or.inl hi)⟩
/-- A block that is no row of bytes and not the box stays. -/
theorem OutTo.box {g : Nat} {w w1 : World} (k : OutTo g w w1) {B : Nat} {cur : Array Value} {t : TypeId} (hb : w.heap[B]? = some (.cells cur t (0, 0))) (ht : t ≠ 5) (hg : B ≠ g) : w1.heap[B]? = some (.cells cur t (0, 0)) := by
  rw [k.block B (Array.getElem?_eq_some_iff.1 hb).1 hg (Or.inr fun c => by rw [hb]; intro e; cases e; exact ht rfl)]; exact hb
theorem OutTo.cell {g : Nat} {w w1 : World} (k : OutTo g w w1) (hgw : g < w.heap.size) {p : Addr} {v : Value} (hc : w.cell? p = some v) (hg : p.block < g) : w1.cell? p = some v := by
  rw [World.cell?_of_block (w := w) ((k.below hgw).block p.block hg)]; exact hc
theorem own_noB {w : World} {g n k : Nat} {v : Value} {xs : List Value} (h : w.ownsRow (g + 1) 5 1 v n xs) (hk : k < g ∨ NoB w k) : some k ≠ v.ownBlock := fun e => by
  have hl := h.lt k e.symm
  rcases hk with hk | hk
  · omega
  · rcases h.2 with ⟨rfl, _⟩ | ⟨j, cap, cur, rfl, _, hj, _⟩
    · cases e
    · cases e
      exact hk cur hj






end Go.Proofs.YtkdafkdogmemcaaDoor

namespace Go.Proofs.YtkdafkdogmemcaaDoor
open Go.RowKit


theorem info5 : ∃ i, Tryd.prog.info? 5 = some i ∧ i.zero = some (.int .u8 0) ∧ i.size = 1 ∧ i.bytes = 1 :=
  ⟨(Tryd.prog.info? 5).get (by kernel_rfl), by kernel_rfl, by kernel_rfl, by kernel_rfl, by kernel_rfl⟩
theorem new_lit (w : World) (l : List Int) (h : l.length ≤ 1048576) : (w.alloc (.cells (bNews l).toArray 5)).ownsRow w.heap.size 5 1 (.slice (some ⟨w.heap.size, 0, none⟩) l.length l.length) l.length (bNews l) := by
  refine ⟨by rw [bNews_len]; omega, Or.inr ⟨w.heap.size, l.length, (bNews l).toArray, rfl, Nat.le_refl _, heap_alloc_new _ _, Nat.le_refl _, by unfold maxLen; omega, by simp [bNews], ?_⟩⟩
  simp only [Nat.mul_one]
  rw [← bNews_len l]
  exact List.take_length
theorem lit_cells (w : World) (l : List Int) (h : l.length ≤ 1048576) : ∀ j u, (bNews l)[j]? = some u → (w.alloc (.cells (bNews l).toArray 5)).cell? ((⟨w.heap.size, 0, none⟩ : Addr).add j) = some u := (new_lit w l h).cells rfl
theorem slice_form {w : World} {b n : Nat} {v : Value} {xs : List Value} (h : w.ownsRow b 5 1 v n xs) : ∃ A n c, v = .slice A n c := by
  rcases h.2 with ⟨rfl, _⟩ | ⟨g, cap, cur, rfl, _⟩
  · exact ⟨_, _, _, rfl⟩
  · exact ⟨_, _, _, rfl⟩
theorem len_app4 (l : List Int) (n : Int) : (l ++ be4 n).length = l.length + 4 := by simp [be4_len]
theorem str_news (s : ByteArray) : Lib.strCells s = bNews (strB s) := by
  unfold Lib.strCells bNews strB
  rw [List.map_map]; rfl
theorem strB_size (s : ByteArray) : (strB s).length = s.size := by
  unfold strB
  rw [List.length_map, Array.length_toList]
  rfl







end Go.Proofs.YtkdafkdogmemcaaDoor
