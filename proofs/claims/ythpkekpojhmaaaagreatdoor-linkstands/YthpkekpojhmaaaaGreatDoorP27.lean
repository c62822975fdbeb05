/-
  Rows of a bag, as a walk wants them; no Go in sight. A bag in memory; one more list in it. Worlds that part in some blocks alone. The program's bases.
-/
import Derived.Test.YthpkekpojhmaaaaGreatDoorProg
import Derived.WalkKit
import Derived.WalkSpells
import Derived.WalkLawsBesides
import Derived.RowKit3
import Derived.Below
import Derived.Deep.QuietTactic
import Derived.BigQuiet
import Derived.WalkSmall
import Derived.Laws.Rows
import Derived.Deep.AppendLies
import Derived.Laws.OwnMore
import Derived.Test.YthpkekpojhmaaaaGreatDoorP19
import Derived.Test.YthpkekpojhmaaaaGreatDoorP01
import Derived.Test.YthpkekpojhmaaaaGreatDoorP21
import Derived.Test.YthpkekpojhmaaaaGreatDoorP22
import Derived.RangeFuncNested
import Derived.RangeFuncBound
import Derived.RangeFuncCalls
import Derived.RangeFuncLeaves
import Derived.Shelf.Abstract
import Derived.Shelf.RegionOpen
import Derived.OwnWalkIn
import Derived.TacticsInMore
import Derived.LoopNIn
import Derived.LoopIn
import Derived.Maps.AppendAt
import Derived.Test.YthpkekpojhmaaaaGreatDoorP26
namespace Go.Proofs.YthpkekpojhmaaaaGreatDoor
open Go.RowKit

theorem Fr.cell {rs : List (Value × Nat)} {w0 w : World} (h : Fr rs w0 w) {a : Addr} {v : Value} (hc : w0.cell? a = some v) (hB : ∀ m, m < rs.length → (rv rs m).ownBlock ≠ some a.block) : w.cell? a = some v :=
  (World.cell?_of_block (h.block a.block (World.block_lt_of_cell? w0 a hc) hB)).trans hc
theorem Fr.refl (rs : List (Value × Nat)) (w : World) : Fr rs w w := ⟨rfl, rfl, rfl, Nat.le_refl _, fun _ _ _ => rfl⟩
/-- The value at a place of a list of lists. -/
theorem vn_get (l : List Value) (m : Nat) (h : m < l.length) : l[m]? = some (vn l m) := by simp [vn, h]
theorem outer_at {w : World} {TS : TypeId} {A : Option Addr} {n cV : Nat} {l : List Value} (h : w.ownsRow 0 TS 1 (.slice A n cV) n l) (m : Nat) (hm : m < n) : ∃ a, A = some a ∧ w.cell? (a.add m) = some (vn l m) := by
  have hl : l.length = n := by have := h.1; omega
  obtain ⟨g, cap, e, _, _⟩ := h.form (by omega)
  cases e
  exact ⟨_, rfl, h.cells rfl m _ (vn_get l m (by omega))⟩
theorem bag_at {rs : List (Value × Nat)} {w : World} {TS : TypeId} {A : Option Addr} {cV : Nat} (h : w.ownsRow 0 TS 1 (.slice A rs.length cV) rs.length (rs.map Prod.fst)) (m : Nat) (hm : m < rs.length) : ∃ a, A = some a ∧ w.cell? (a.add m) = some (rv rs m) := by
  rw [← vn_map rs m hm]
  exact outer_at h m hm
/-- A cell of a row. -/
theorem row_cell {w : World} {e : TypeId} {size g n c : Nat} {xs : List Value} (h : w.ownsRow 0 e size (.slice (some ⟨g, 0, none⟩) n c) n xs) (j : Nat) (hj : j < n * size) : ∃ u, w.cell? ((⟨g, 0, none⟩ : Addr).add j) = some u :=
  ⟨_, h.cells rfl j _ (List.getElem?_eq_getElem (by rw [h.1]; exact hj))⟩

theorem row_cell0 {w : World} {e : TypeId} {size g n c : Nat} {xs : List Value} (h : w.ownsRow 0 e size (.slice (some ⟨g, 0, none⟩) n c) n xs) (j : Nat) (hj : j < n * size) : ∃ u, w.cell? ⟨g, j, none⟩ = some u := by
  obtain ⟨u, hu⟩ := row_cell h j hj
  rw [Addr.add_lit, Nat.zero_add] at hu
  exact ⟨u, hu⟩
theorem take_set {xs M : List Value} {p : Nat} (h : xs.take p = M) (hp : p < xs.length) (u : Value) : (xs.set p u).take (p + 1) = M ++ [u] := by
  rw [List.take_set, List.take_succ_eq_append_getElem hp, h]
  have hl : M.length = p := by rw [← h, List.length_take]; omega
  rw [List.set_append_right _ _ (by omega), hl, Nat.sub_self]
  rfl
/-- Marks being written, cell by cell. -/
structure Wm (T TS : TypeId) (size : Nat) (mk : Nat → Nat → List Value) (rs : List (Value × Nat)) (V : Value) (w0 w : World) (n i : Nat) : Prop where
  wr : Wr T size mk rs w n i
  bag : w.ownsRow 0 TS 1 V rs.length (rs.map Prod.fst)
  fr : Fr rs w0 w
section
variable {T TS : TypeId} {size : Nat} {mk : Nat → Nat → List Value} {rs : List (Value × Nat)} {V : Value} {w0 w : World} {n i : Nat}
theorem Wm.next (h : Wm T TS size mk rs V w0 w n (rl rs n)) : Wm T TS size mk rs V w0 w (n + 1) 0 := ⟨h.wr.next, h.bag, h.fr⟩
theorem Wm.start (hV : w.ownsRow 0 TS 1 V rs.length (rs.map Prod.fst)) (hR : ∀ m, m < rs.length → ∃ xs, w.ownsRow 0 T size (rv rs m) (rl rs m) xs) : Wm T TS size mk rs V w w 0 0 :=
  ⟨fun m hm => by
    obtain ⟨xs, hx⟩ := hR m hm
    exact ⟨xs, hx, fun h => by omega, fun _ => by simp [marks]⟩, hV, Fr.refl rs w⟩
theorem Wm.row (h : Wm T TS size mk rs V w0 w n i) {m : Nat} (hm : m < rs.length) : ∃ xs, w.ownsRow 0 T size (rv rs m) (rl rs m) xs := by
  obtain ⟨xs, hx, _⟩ := h.wr m hm
  exact ⟨xs, hx⟩
/-- A mark is written. -/
theorem Wm.step {w' : World} (hs : Sep rs) (hT : T ≠ TS) (h : Wm T TS size mk rs V w0 w n i) (hn : n < rs.length) (hg : w.grownBy w' (rv rs n).ownBlock) (ho : ∀ xs, w.ownsRow 0 T size (rv rs n) (rl rs n) xs → xs.take (i * size) = marks mk n i → ∃ ys, w'.ownsRow 0 T size (rv rs n) (rl rs n) ys ∧ ys.take ((i + 1) * size) = marks mk n (i + 1)) : Wm T TS size mk rs V w0 w' n (i + 1) := by
  obtain ⟨xs, hx⟩ := h.row hn
  exact ⟨h.wr.step hs hn hg ho, own_other h.bag hg (own_not hx hT), h.fr.grown hg fun b hb => .inr ⟨n, hn, hb⟩⟩
theorem grown_trans {a b c : World} {row : Option Nat} (h : a.grownBy b row) (k : b.grownBy c row) : a.grownBy c row :=
  ⟨k.os.trans h.os, k.tape.trans h.tape, k.output.trans h.output, Nat.le_trans h.size k.size, fun x hx hn => (k.block x (Nat.lt_of_lt_of_le hx h.size) hn).trans (h.block x hx hn)⟩
theorem Wm.step1 {g c : Nat} {u : Value} (hs : Sep rs) (hT : T ≠ TS) (h : Wm T TS 1 mk rs V w0 w n i) (hn : n < rs.length) (hi : i < rl rs n) (e : rv rs n = .slice (some ⟨g, 0, none⟩) (rl rs n) c) (hu : mk n i = [u]) : Wm T TS 1 mk rs V w0 (w.setCell ⟨g, i, none⟩ u) n (i + 1) := by
  obtain ⟨xs, hx⟩ := h.row hn
  rw [e] at hx
  refine h.step hs hT hn (by rw [e]; exact (hx.stored i u).2) fun xs hx ht => ?_
  rw [e] at hx ⊢
  refine ⟨_, (hx.stored i u).1, ?_⟩
  rw [Nat.mul_one] at ht ⊢
  rw [take_set ht (by rw [hx.1]; omega), marks_succ, hu]
theorem Wm.step2 {g c : Nat} {u v : Value} (hs : Sep rs) (hT : T ≠ TS) (h : Wm T TS 2 mk rs V w0 w n i) (hn : n < rs.length) (hi : i < rl rs n) (e : rv rs n = .slice (some ⟨g, 0, none⟩) (rl rs n) c) (hu : mk n i = [u, v]) : Wm T TS 2 mk rs V w0 ((w.setCell ⟨g, i * 2, none⟩ u).setCell ⟨g, i * 2 + 1, none⟩ v) n (i + 1) := by
  obtain ⟨xs, hx⟩ := h.row hn
  rw [e] at hx
  refine h.step hs hT hn (by rw [e]; exact grown_trans (hx.stored (i * 2) u).2 ((hx.stored (i * 2) u).1.stored (i * 2 + 1) v).2) fun xs hx ht => ?_
  rw [e] at hx ⊢
  refine ⟨_, ((hx.stored (i * 2) u).1.stored (i * 2 + 1) v).1, ?_⟩
  have h1 := take_set ht (by rw [hx.1]; omega) u
  have h2 := take_set h1 (by rw [List.length_set, hx.1]; omega) v
  rw [show (i + 1) * 2 = i * 2 + 1 + 1 by omega, h2, marks_succ, hu, List.append_assoc]
  rfl
theorem Wm.step3 {g c : Nat} {u v x : Value} (hs : Sep rs) (hT : T ≠ TS) (h : Wm T TS 3 mk rs V w0 w n i) (hn : n < rs.length) (hi : i < rl rs n) (e : rv rs n = .slice (some ⟨g, 0, none⟩) (rl rs n) c) (hu : mk n i = [u, v, x]) : Wm T TS 3 mk rs V w0 (((w.setCell ⟨g, i * 3, none⟩ u).setCell ⟨g, i * 3 + 1, none⟩ v).setCell ⟨g, i * 3 + 2, none⟩ x) n (i + 1) := by
  obtain ⟨xs, hx⟩ := h.row hn
  rw [e] at hx
  refine h.step hs hT hn (by rw [e]; exact grown_trans (grown_trans (hx.stored (i * 3) u).2 ((hx.stored (i * 3) u).1.stored (i * 3 + 1) v).2) (((hx.stored (i * 3) u).1.stored (i * 3 + 1) v).1.stored (i * 3 + 2) x).2) fun xs hx ht => ?_
  rw [e] at hx ⊢
  refine ⟨_, (((hx.stored (i * 3) u).1.stored (i * 3 + 1) v).1.stored (i * 3 + 2) x).1, ?_⟩
  have h1 := take_set ht (by rw [hx.1]; omega) u
  have h2 := take_set h1 (by rw [List.length_set, hx.1]; omega) v
  have h3 := take_set h2 (by rw [List.length_set, List.length_set, hx.1]; omega) x
  rw [show (i + 1) * 3 = i * 3 + 1 + 1 + 1 by omega, h3, marks_succ, hu, List.append_assoc, List.append_assoc]
  rfl
theorem Wm.out (hs : Sep rs) (h : Wm T TS size mk rs V w0 w rs.length 0) : Out T TS size mk rs w0 w 0 V (.slice none 0 0) (.slice none 0 0) [] [] := Wr.out hs h.wr h.bag h.fr
/-- A new block is made. -/
theorem Out.alloc {O M : Value} {os ms : List Value} (h : Out T TS size mk rs w0 w n V O M os ms) (o : Obj) : Out T TS size mk rs w0 (w.alloc o) n V O M os ms :=
  h.other (World.grownBy_alloc w o none) (fun b e => by cases e) (fun b e => by cases e) (fun b e => by cases e)
theorem Ap.alloc {O M l : Value} {os ms : List Value} (h : Ap T TS size mk rs w0 w n V O M os ms l i) (o : Obj) : Ap T TS size mk rs w0 (w.alloc o) n V O M os ms l i :=
  ⟨h.out.alloc o, h.cur.alloc o, h.my, h.far, h.safe⟩
/-- What a held row's cells are. -/
theorem own_mark {g L c k j : Nat} (hmk : ∀ n i, (mk n i).length = size) (h : w.ownsRow 0 T size (.slice (some ⟨g, 0, none⟩) L c) L (marks mk k L)) (hi : i < L) (hj : j < size) {u : Value} (hu : (mk k i)[j]? = some u) : w.cell? ⟨g, i * size + j, none⟩ = some u := by
  have := h.cells rfl (i * size + j) u (by rw [marks_get hmk k hi hj]; exact hu)
  rwa [Addr.add_lit, Nat.zero_add] at this
theorem Out.row {O M : Value} {os ms : List Value} (h : Out T TS size mk rs w0 w n V O M os ms) (k : Nat) (hk : k < rs.length) : w.ownsRow 0 T size (rv rs k) (rl rs k) (marks mk k (rl rs k)) := (h.held _ _ _ (.inl ⟨hk, rfl, rfl⟩)).1
theorem Out.ones {O M : Value} {os ms : List Value} (h : Out T TS size mk rs w0 w n V O M os ms) (k : Nat) (hk : k < os.length) : w.ownsRow 0 T size (vn os k) (rl rs k + 1) (marks mk k (rl rs k + 1)) := (h.held _ _ _ (.inr (.inl ⟨hk, rfl, rfl⟩))).1
theorem Out.mores {O M : Value} {os ms : List Value} (h : Out T TS size mk rs w0 w n V O M os ms) (k : Nat) (hk : k < ms.length) : w.ownsRow 0 T size (vn ms k) (rl rs k + 70) (marks mk k (rl rs k + 70)) := (h.held _ _ _ (.inr (.inr ⟨hk, rfl, rfl⟩))).1
end




end Go.Proofs.YthpkekpojhmaaaaGreatDoor

namespace Go.Proofs.YthpkekpojhmaaaaGreatDoor
open Go.RowKit


/-- A bag lies at B: its seventeen lists. -/
def BagIs (w : World) (B : Nat) (f : Nat → Value) : Prop := ∃ cs : Array Value, w.heap[B]? = some (.cells cs 58 (0, 0)) ∧ ∀ k, k < 17 → cs[k]? = some (f k)
def upd (f : Nat → Value) (K : Nat) (v : Value) : Nat → Value := fun k => if k = K then v else f k
theorem BagIs.cell {w : World} {B : Nat} {f : Nat → Value} (h : BagIs w B f) (k : Nat) (hk : k < 17) : w.cell? ⟨B, k, none⟩ = some (f k) := by
  obtain ⟨cs, h1, h2⟩ := h
  rw [cell_of_row w B k cs 58 (0, 0) h1]
  exact h2 k hk
theorem BagIs.fro {w : World} {B : Nat} {f : Nat → Value} (h : BagIs w B f) (k : Nat) : w.frozen? ⟨B, k, none⟩ = false := by
  obtain ⟨cs, h1, _⟩ := h
  exact frozen_of_row w B k cs 58 h1
theorem BagIs.lt {w : World} {B : Nat} {f : Nat → Value} (h : BagIs w B f) : B < w.heap.size := by
  obtain ⟨cs, h1, _⟩ := h
  exact (Array.getElem?_eq_some_iff.1 h1).1
theorem BagIs.keep {w w' : World} {B : Nat} {f : Nat → Value} (h : BagIs w B f) (e : w'.heap[B]? = w.heap[B]?) : BagIs w' B f := by
  obtain ⟨cs, h1, h2⟩ := h
  exact ⟨cs, e.trans h1, h2⟩
theorem BagIs.not {w : World} {B : Nat} {f : Nat → Value} (h : BagIs w B f) {e : TypeId} (he : e ≠ 58) : Not w e (some B) := fun b hb cur hc => by
  obtain ⟨cs, h1, _⟩ := h
  cases hb
  rw [h1] at hc
  simp only [Option.some.injEq, Obj.cells.injEq] at hc
  exact he hc.2.1.symm
theorem zgrown_set (w : World) (B k : Nat) (v : Value) : w.grownBy (w.setCell ⟨B, k, none⟩ v) (some B) :=
  ⟨rfl, rfl, rfl, by simp, fun b _ hb => heap_setCell_other w ⟨B, k, none⟩ b v (fun e => hb (by simp [e]))⟩
theorem BagIs.set {w : World} {B : Nat} {f : Nat → Value} (h : BagIs w B f) (K : Nat) (hK : K < 17) (v : Value) : BagIs (w.setCell ⟨B, K, none⟩ v) B (upd f K v) := by
  obtain ⟨cs, h1, h2⟩ := h
  refine ⟨cs.setIfInBounds K v, heap_setCell_same w B K cs 58 v h1, fun k hk => ?_⟩
  unfold upd
  rw [Array.getElem?_setIfInBounds]
  by_cases e : k = K
  · subst e
    have hlt : k < cs.size := (Array.getElem?_eq_some_iff.1 (h2 k hk)).1
    simp [hlt]
  · rw [if_neg (fun e2 => e e2.symm), if_neg e]
    exact h2 k hk
theorem BagIs.off {w : World} {B : Nat} {f : Nat → Value} (h : BagIs w B f) {base : Nat} {e : TypeId} {size : Nat} {v : Value} {n : Nat} {xs : List Value} (hv : w.ownsRow base e size v n xs) (he : e ≠ 58) : v.ownBlock ≠ some B := fun hb => by
  obtain ⟨cur, hc⟩ := own_block hv hb
  exact h.not he B rfl cur hc
/-- A list was put into a bag. -/
def Added (n B K : Nat) (TS : TypeId) (f : Nat → Value) (l : List Value) (v : Value) (w : World) (r : Ending) (w' : World) : Prop :=
  r = .returned (.tuple #[]) ∧ ∃ V, BagIs w' B (upd f K V) ∧ w'.ownsRow n TS 1 V (l.length + 1) (l ++ [v]) ∧ Below n w w' ∧ ∀ b, b < w.heap.size → b ≠ B → (f K).ownBlock ≠ some b → w'.heap[b]? = w.heap[b]?
theorem added {n B K : Nat} {TS : TypeId} {f : Nat → Value} {l : List Value} {v V : Value} {w w1 : World} (hTS : TS ≠ 58) (hK : K < 17) (hn : n ≤ B) (hb : BagIs w B f) (ho : w.ownsRow n TS 1 (f K) l.length l) (o : Obj) (ho1 : w1.ownsRow n TS 1 V (l.length + 1) (l ++ [v])) (hg : (w.alloc o).grownBy w1 (f K).ownBlock) : Added n B K TS f l v w (.returned (.tuple #[])) (w1.setCell ⟨B, K, none⟩ V) := by
  have hlt := hb.lt
  have hB1 : w1.heap[B]? = w.heap[B]? := by
    rw [hg.block B (by simp; omega) (fun e => hb.off ho hTS e.symm), Below.heap_alloc w o B hlt]
  have hb1 := hb.keep hB1
  refine ⟨rfl, V, hb1.set K hK V, own_other ho1 (zgrown_set _ _ _ _) (hb1.not hTS), ?_, fun b h1 h2 h3 => ?_⟩
  · refine Below.setCell ?_ hn _
    refine Below.grown ((Below.refl n w).alloc (by omega) o) hg (by simp; omega) (fun k hk => ?_)
    exact (ho.lt k hk).1
  · rw [heap_setCell_other _ _ _ _ (fun e => h2 e), hg.block b (by simp; omega) (fun e => h3 e.symm), Below.heap_alloc w o b h1]



end Go.Proofs.YthpkekpojhmaaaaGreatDoor

namespace Go.Proofs.YthpkekpojhmaaaaGreatDoor
open Go.RowKit


/-- Whose block: one of the rows. -/
def Of (rs : List (Value × Nat)) (b : Nat) : Prop := ∃ m, m < rs.length ∧ (rv rs m).ownBlock = some b
/-- All that is other lies in blocks of P, or is new. -/
structure FrB (P : Nat → Prop) (w0 w : World) : Prop where
  os : w.os = w0.os
  tape : w.tape = w0.tape
  output : w.output = w0.output
  size : w0.heap.size ≤ w.heap.size
  block : ∀ b, b < w0.heap.size → ¬ P b → w.heap[b]? = w0.heap[b]?
theorem FrB.refl (P : Nat → Prop) (w : World) : FrB P w w := ⟨rfl, rfl, rfl, Nat.le_refl _, fun _ _ _ => rfl⟩
theorem FrB.mono {P Q : Nat → Prop} {w0 w : World} (h : FrB P w0 w) (hq : ∀ b, P b → Q b) : FrB Q w0 w := ⟨h.os, h.tape, h.output, h.size, fun b h1 h2 => h.block b h1 (fun h3 => h2 (hq b h3))⟩
theorem FrB.then {P : Nat → Prop} {rs : List (Value × Nat)} {w0 w w' : World} (h : FrB P w0 w) (k : Fr rs w w') : FrB (fun b => P b ∨ Of rs b) w0 w' :=
  ⟨k.os.trans h.os, k.tape.trans h.tape, k.output.trans h.output, Nat.le_trans h.size k.size, fun b hb hn => (k.block b (Nat.lt_of_lt_of_le hb h.size) (fun m hm e => hn (.inr ⟨m, hm, e⟩))).trans (h.block b hb (fun hp => hn (.inl hp)))⟩
theorem FrB.below {P : Nat → Prop} {w w1 w2 : World} {n : Nat} (h : FrB P w1 w2) (hb : Below n w w1) (hn : n ≤ w1.heap.size) (hq : ∀ b, P b → n ≤ b) : Below n w w2 :=
  ⟨h.os.trans hb.os, h.tape.trans hb.tape, h.output.trans hb.output, Nat.le_trans hb.size h.size, fun b hlt => (h.block b (by omega) (fun hp => by have := hq b hp; omega)).trans (hb.block b hlt)⟩
theorem own_same {w w' : World} {base : Nat} {e : TypeId} {size : Nat} {v : Value} {n : Nat} {xs : List Value} (h : w.ownsRow base e size v n xs) (hs : ∀ b, v.ownBlock = some b → w'.heap[b]? = w.heap[b]?) : w'.ownsRow base e size v n xs := by
  refine ⟨h.1, ?_⟩
  rcases h.2 with h1 | ⟨g, cap, cur, rfl, h2, hg, h3⟩
  · exact .inl h1
  · exact .inr ⟨g, cap, cur, rfl, h2, by rw [hs g rfl]; exact hg, h3⟩
/-- Rows of four kinds: numbers, words, ints (and none). -/
structure Four (w : World) (r4 r5 r8 r9 : List (Value × Nat)) : Prop where
  k4 : ∀ m, m < r4.length → ∃ xs, w.ownsRow 0 2 1 (rv r4 m) (rl r4 m) xs
  k5 : ∀ m, m < r5.length → ∃ xs, w.ownsRow 0 78 1 (rv r5 m) (rl r5 m) xs
  k8 : ∀ m, m < r8.length → ∃ xs, w.ownsRow 0 3 1 (rv r8 m) (rl r8 m) xs
  k9 : ∀ m, m < r9.length → ∃ xs, w.ownsRow 0 83 2 (rv r9 m) (rl r9 m) xs
/-- The blocks that were written ahead of the kind k. -/
def Pk (r4 r5 r8 r9 : List (Value × Nat)) (k b : Nat) : Prop := (4 < k ∧ Of r4 b) ∨ (5 < k ∧ Of r5 b) ∨ (1 < k ∧ Of r8 b) ∨ (9 < k ∧ Of r9 b)
theorem Pk.kind {w : World} {r4 r5 r8 r9 : List (Value × Nat)} {k b : Nat} (h : Pk r4 r5 r8 r9 k b) (hf : Four w r4 r5 r8 r9) : ∃ e cur, w.heap[b]? = some (.cells cur e (0, 0)) ∧ ((4 < k ∧ e = 2) ∨ (5 < k ∧ e = 78) ∨ (1 < k ∧ e = 3) ∨ (9 < k ∧ e = 83)) := by
  rcases h with ⟨h, m, hm, e⟩ | ⟨h, m, hm, e⟩ | ⟨h, m, hm, e⟩ | ⟨h, m, hm, e⟩
  · obtain ⟨xs, hx⟩ := hf.k4 m hm
    obtain ⟨cur, hc⟩ := own_block hx e
    exact ⟨_, cur, hc, .inl ⟨h, rfl⟩⟩
  · obtain ⟨xs, hx⟩ := hf.k5 m hm
    obtain ⟨cur, hc⟩ := own_block hx e
    exact ⟨_, cur, hc, .inr (.inl ⟨h, rfl⟩)⟩
  · obtain ⟨xs, hx⟩ := hf.k8 m hm
    obtain ⟨cur, hc⟩ := own_block hx e
    exact ⟨_, cur, hc, .inr (.inr (.inl ⟨h, rfl⟩))⟩
  · obtain ⟨xs, hx⟩ := hf.k9 m hm
    obtain ⟨cur, hc⟩ := own_block hx e
    exact ⟨_, cur, hc, .inr (.inr (.inr ⟨h, rfl⟩))⟩
/-- A row of a kind that was not written stays. -/
theorem FrB.own {w w' : World} {r4 r5 r8 r9 : List (Value × Nat)} {k base : Nat} {e : TypeId} {size : Nat} {v : Value} {n : Nat} {xs : List Value} (hF : FrB (Pk r4 r5 r8 r9 k) w w') (hf : Four w r4 r5 r8 r9) (h : w.ownsRow base e size v n xs) (he : ¬ ((4 < k ∧ e = 2) ∨ (5 < k ∧ e = 78) ∨ (1 < k ∧ e = 3) ∨ (9 < k ∧ e = 83))) : w'.ownsRow base e size v n xs := by
  refine own_same h fun b hb => hF.block b (own_lt h hb) fun hp => he ?_
  obtain ⟨cur, hc⟩ := own_block h hb
  obtain ⟨e', cur', hc', hk⟩ := hp.kind hf
  rw [hc] at hc'
  simp only [Option.some.injEq, Obj.cells.injEq] at hc'
  obtain ⟨-, rfl, -⟩ := hc'
  exact hk
theorem FrB.bag {w w' : World} {r4 r5 r8 r9 : List (Value × Nat)} {k B : Nat} {f : Nat → Value} (hF : FrB (Pk r4 r5 r8 r9 k) w w') (hf : Four w r4 r5 r8 r9) (h : BagIs w B f) : BagIs w' B f := by
  refine h.keep (hF.block B h.lt fun hp => ?_)
  obtain ⟨cs, hc, -⟩ := h
  obtain ⟨e', cur', hc', hk⟩ := hp.kind hf
  rw [hc] at hc'
  simp only [Option.some.injEq, Obj.cells.injEq] at hc'
  obtain ⟨-, rfl, -⟩ := hc'
  rcases hk with ⟨-, h⟩ | ⟨-, h⟩ | ⟨-, h⟩ | ⟨-, h⟩ <;> exact absurd h (by decide)
theorem FrB.next {w w1 w' : World} {r4 r5 r8 r9 rs : List (Value × Nat)} {k : Nat} (hF : FrB (Pk r4 r5 r8 r9 k) w1 w) (h : Fr rs w w') (hk : ∀ b, Of rs b → Pk r4 r5 r8 r9 (k + 1) b) : FrB (Pk r4 r5 r8 r9 (k + 1)) w1 w' := by
  refine (hF.then h).mono fun b hb => ?_
  rcases hb with hb | hb
  · rcases hb with ⟨h, h'⟩ | ⟨h, h'⟩ | ⟨h, h'⟩ | ⟨h, h'⟩
    · exact .inl ⟨by omega, h'⟩
    · exact .inr (.inl ⟨by omega, h'⟩)
    · exact .inr (.inr (.inl ⟨by omega, h'⟩))
    · exact .inr (.inr (.inr ⟨by omega, h'⟩))
  · exact hk b hb




end Go.Proofs.YthpkekpojhmaaaaGreatDoor

namespace Go.Proofs.YthpkekpojhmaaaaGreatDoor
open Go.RowKit

attribute [local go_sem] Oper.semAt_some

theorem Turn.below {n n0 : Nat} {w0 W W' : World} (h : Turn n W W') (hb : Below n0 w0 W) (hn : n0 ≤ n) : Below n0 w0 W' := hb.trans ⟨h.os, h.tape, h.output, h.size, fun k hk => h.low k (by omega)⟩
theorem Turn.box {n B : Nat} {t : TypeId} {v : Value} {W W' : World} (h : Turn n W W') (hb : Boxed W B t v) (ht : t ≠ 75) : Boxed W' B t v := (h.cells B _ _ _ hb ht).trans hb
theorem Turn.row {n : Nat} {W W' : World} {base : Nat} {e : TypeId} {size : Nat} {v : Value} {k : Nat} {xs : List Value} (h : Turn n W W') (hr : W.ownsRow base e size v k xs) (he : e ≠ 75) : W'.ownsRow base e size v k xs :=
  own_same hr fun b hb => by
    obtain ⟨cur, hc⟩ := own_block hr hb
    exact h.cells b _ _ _ hc he
theorem Kept.row {n0 n1 : Nat} {W W' : World} {base : Nat} {e : TypeId} {size : Nat} {v : Value} {k : Nat} {xs : List Value} (hr : W.ownsRow base e size v k xs) (hg : W.grownBy W' v.ownBlock) (he : e ≠ 75) (hb : n0 ≤ base) (hw : n0 ≤ W.heap.size) : Kept n0 n1 W W' := by
  cases hv : v.ownBlock with
  | none => rw [hv] at hg; exact Kept.grown0 hg hw
  | some g =>
    obtain ⟨cur, hc⟩ := own_block hr hv
    rw [hv] at hg
    exact Kept.grown hg hc he (Nat.le_trans hb (hr.lt g hv).1)
theorem Kept.set {n0 n1 B : Nat} {t : TypeId} {v : Value} {W : World} (hb : Boxed W B t v) (ht : t ≠ 75) (hn : n0 ≤ B) (u : Value) : Kept n0 n1 W (W.setCell ⟨B, 0, none⟩ u) :=
  Kept.grown (grownBy_setCell' W B u) hb ht hn
theorem box_new {W : World} {t : TypeId} {v : Value} {n : Nat} (h : n = W.heap.size) : Boxed (W.alloc (.cells #[v] t)) n t v := by subst h; exact Boxed.new _ _ _
theorem box_past {W W' : World} {base : Nat} {e t : TypeId} {size B : Nat} {v u : Value} {k : Nat} {xs : List Value} (hb : Boxed W B t u) (hr : W.ownsRow base e size v k xs) (hg : W.grownBy W' v.ownBlock) (h : B < base ∨ t ≠ e) : Boxed W' B t u := by
  refine hb.kept hg (fun e2 => ?_)
  rcases h with h | h
  · have := (hr.lt B e2.symm).1
    omega
  · exact hb.not_row h hr e2
theorem own_set3b {w : World} {b n g1 g2 g3 : Nat} {e : TypeId} {sz : Nat} {v : Value} {xs : List Value} (h : w.ownsRow b e sz v n xs) (h1 : g1 < b) (h2 : g2 < b) (h3 : g3 < b) {u1 u2 u3 : Value} : (((w.setCell ⟨g1, 0, none⟩ u1).setCell ⟨g2, 0, none⟩ u2).setCell ⟨g3, 0, none⟩ u3).ownsRow b e sz v n xs := by
  have far : ∀ {w1 : World} {g : Nat}, g < b → w1.ownsRow b e sz v n xs → ∀ c, v.ownBlock = some c → some g ≠ some c := fun hg h1 c hc e => by
    cases e
    have := (h1.lt _ hc).1
    omega
  have a := own_apart h (grown_cell w g1 0 u1) (far h1 h)
  have a2 := own_apart a (grown_cell _ g2 0 u2) (far h2 a)
  exact own_apart a2 (grown_cell _ g3 0 u3) (far h3 a2)
/-- What basesOf answers. -/
def BofP (l : List Ob) (w : World) (e : Ending) (w' : World) : Prop :=
  (∃ i, farL l = some i ∧ e = .returned (.tuple #[.slice none 0 0, .int .i64 42, .int .i64 (i : Int)]) ∧ Below w.heap.size w w') ∨
  (farL l = none ∧ ∃ (O : Option Addr) (c : Nat), e = .returned (.tuple #[.slice O l.length c, .int .i64 0, .int .i64 0]) ∧ w'.ownsRow w.heap.size 3 1 (.slice O l.length c) l.length (vI (basT l l.length)) ∧ Below w.heap.size w w')
/-- Its own cells, between two rounds. -/
structure BofI (l : List Ob) (A : Option Addr) (ca : Nat) (w : World) (k : Nat) (W : World) : Prop where
  b0 : Boxed W w.heap.size 22 (.slice A l.length ca)
  b1 : Boxed W (w.heap.size + 1) 33 (.slice none 0 0)
  b2 : Boxed W (w.heap.size + 1 + 1) 30 (.int .i64 0)
  b3 : Boxed W (w.heap.size + 1 + 1 + 1) 3 (.int .i64 0)
  row : ∃ (O : Option Addr) (c : Nat), Boxed W (w.heap.size + 1 + 1 + 1 + 1) 33 (.slice O k c) ∧ W.ownsRow (w.heap.size + 1 + 1 + 1 + 1) 3 1 (.slice O k c) k (vI (basT l k))
  low : Below w.heap.size w W
  near : ∀ j, j < k → farO l j = none
structure BofX (l : List Ob) (w : World) (k : Nat) (W : World) : Prop where
  b1 : Boxed W (w.heap.size + 1) 33 (.slice none 0 0)
  b2 : Boxed W (w.heap.size + 1 + 1) 30 (.int .i64 42)
  b3 : Boxed W (w.heap.size + 1 + 1 + 1) 3 (.int .i64 (k : Int))
  low : Below w.heap.size w W
  far : farL l = some k
theorem BofI.turn {l : List Ob} {A : Option Addr} {ca : Nat} {w : World} {k n : Nat} {W W' : World} (h : BofI l A ca w k W) (t : Turn n W W') (hn : w.heap.size ≤ n) : BofI l A ca w k W' := by
  obtain ⟨O, c, r1, r2⟩ := h.row
  exact ⟨t.box h.b0 (by decide), t.box h.b1 (by decide), t.box h.b2 (by decide), t.box h.b3 (by decide), ⟨O, c, t.box r1 (by decide), t.row r2 (by decide)⟩, t.below h.low hn, h.near⟩
theorem BofX.turn {l : List Ob} {w : World} {k n : Nat} {W W' : World} (h : BofX l w k W) (t : Turn n W W') (hn : w.heap.size ≤ n) : BofX l w k W' :=
  ⟨t.box h.b1 (by decide), t.box h.b2 (by decide), t.box h.b3 (by decide), t.below h.low hn, h.far⟩
set_option maxRecDepth 100000 in
set_option maxHeartbeats 8000000 in
theorem basesOf_any (A : Option Addr) (ca : Nat) (q : Nat → Pl) (l : List Ob) (w : World) (hA : ObsIn w A q l) : Calls Tryz.prog 37 #[.slice A l.length ca] w (BofP l w) := by
  have HA : Hid (ObsIn w A q l) := hA
  obtain ⟨i0, hi0, hz0, hz1, hz2⟩ := info3
  have hf := hA.few
  have HC : Hid (∀ j, j < l.length → (ob l j).code.length ≤ 1048576) := fun j hj => (hA.each j hj).hc
  clear hA
  refine (callsIn_wide (n := 5)).1 ?_
  refine callsIn_of_wp_marks Tryz.func37 rfl trivial ?_ rfl
  simp only [Tryz.ntmps37, List.size_toArray, List.length_cons, List.length_nil, Nat.reduceAdd, Nat.reduceSub, Array.replicate_succ, Array.replicate_zero, List.push_toArray, List.append_toArray, List.nil_append, List.cons_append]
  gi_wp2_with fail
  refine ⟨trivial, (callsIn_wide.2 (layout_any _ _ _ _)).mono ?_⟩
  rintro e w' ⟨rfl, rfl⟩
  obtain ⟨W0, hW0⟩ : ∃ W0, W0 = (((((w.alloc (.cells #[.slice A l.length ca] 22)).alloc (.cells #[.slice none 0 0] 33)).alloc (.cells #[.int .i64 0] 30)).alloc (.cells #[.int .i64 0] 3)).alloc (.cells #[.slice none 0 0] 33)).alloc (.cells #[.slice A l.length ca] 22) := ⟨_, rfl⟩
  have hB0 : Below w.heap.size w W0 := by rw [hW0]; exact lb_alloc (lb_alloc (lb_alloc (lb_alloc (lb_alloc (lb_alloc (Below.refl _ _) _) _) _) _) _) _
  have hS0 : W0.heap.size = w.heap.size + 1 + 1 + 1 + 1 + 1 + 1 := by rw [hW0]; simp
  have hI0 : BofI l A ca w 0 W0 := by
    rw [hW0]
    exact ⟨((((((box_new rfl).alloc _).alloc _).alloc _).alloc _).alloc _), (((((box_new (by simp)).alloc _).alloc _).alloc _).alloc _), ((((box_new (by simp)).alloc _).alloc _).alloc _), (((box_new (by simp)).alloc _).alloc _), ⟨none, 0, (box_new (by simp)).alloc _, World.ownsRow_nil _ _ _ _⟩, hW0 ▸ hB0, fun j hj => by omega⟩
  have hBx : W0.cell? ⟨w.heap.size + 1 + 1 + 1 + 1 + 1, 0, none⟩ = some (.slice A l.length ca) := by rw [hW0]; simp [go_sem]
  gi_wp2_with fail
  rw [← hW0]
  clear hW0
  refine range_layout 5 (by decide) w.heap.size (w.heap.size + 1 + 1 + 1 + 1 + 1) A ca q l w rfl hBx rfl (fun W h => HA.out.keep h) (by omega) (BofI l A ca w) (BofX l w) (fun k W W' h t => h.turn t (by omega)) (fun k W W' h t => h.turn t (by omega)) (fun k W h => h.low) hI0 (fun k => { tmps := #[.slice A l.length ca, .pointer (some ⟨w.heap.size, 0, none⟩), .pointer (some ⟨w.heap.size + 1, 0, none⟩), .pointer (some ⟨w.heap.size + 1 + 1, 0, none⟩), .pointer (some ⟨w.heap.size + 1 + 1 + 1, 0, none⟩), .pointer (some ⟨w.heap.size + 1 + 1 + 1 + 1, 0, none⟩), .int .i64 (k : Int), .int .i64 (bsF l k : Int), .slice A l.length ca, .func (.func 142) #[] #[.pointer (some ⟨w.heap.size + 1 + 1 + 1 + 1 + 1, 0, none⟩)], .int .i64 (k : Int), .int .i64 (bsF l k : Int), undef, undef, undef, undef, undef, undef, undef, undef, undef, undef, undef, undef, undef, undef, undef], defers := [] }) ?assign ?body ?done ?stop
  case assign =>
    intro l0 k W K hK
    gi_wp2
    exact hK
  case body =>
    intro l0 k W hk hs0 hI
    have hs : w.heap.size + 1 + 1 + 1 + 1 + 1 + 1 ≤ W.heap.size := by omega
    clear hS0 hs0 hI0 hBx
    have HI : Hid (BofI l A ca w k W) := hI
    obtain ⟨O, c, r1, r2⟩ := hI.row
    have HR1 : Hid (Boxed W (w.heap.size + 1 + 1 + 1 + 1) 33 (.slice O k c)) := r1
    have HR2 : Hid (W.ownsRow (w.heap.size + 1 + 1 + 1 + 1) 3 1 (.slice O k c) k (vI (basT l k))) := r2
    have hb0 := hI.b0.cell
    have hb5 := r1.cell
    have hk' : (k : Int) < (l.length : Int) := by omega
    obtain ⟨a, ea, x0, x1, x2, x3, x4, x5⟩ := (HA.out.keep hI.low).cells.six (Below.refl _ _) k hk
    have hcl := HC.out k hk
    have hsf := sum_fits HC.out hf (Nat.le_of_lt hk)
    clear hI r1 r2 x0 x2 x3 x4 x5
    subst ea
    by_cases hfar : 16384 ≤ bsF l k + (ob l k).code.length
    · have hfar' : (16384 : Int) ≤ (bsF l k : Int) + ((ob l k).code.length : Int) := by omega
      have f1 := HI.out.b1.frozen
      have f2 := HI.out.b2.frozen
      have f3 := HI.out.b3.frozen
      have c1 := HI.out.b1.cell
      have c2 := HI.out.b2.cell
      have c3 := HI.out.b3.cell
      have hB := HI.out.low
      gi_wp2
      have q1 : Boxed (((W.setCell ⟨w.heap.size + 1, 0, none⟩ (.slice none 0 0)).setCell ⟨w.heap.size + 1 + 1, 0, none⟩ (.int .i64 42)).setCell ⟨w.heap.size + 1 + 1 + 1, 0, none⟩ (.int .i64 (k : Int))) (w.heap.size + 1) 33 (.slice none 0 0) := ((HI.out.b1.set _).other (by omega) _).other (by omega) _
      have q2 : Boxed (((W.setCell ⟨w.heap.size + 1, 0, none⟩ (.slice none 0 0)).setCell ⟨w.heap.size + 1 + 1, 0, none⟩ (.int .i64 42)).setCell ⟨w.heap.size + 1 + 1 + 1, 0, none⟩ (.int .i64 (k : Int))) (w.heap.size + 1 + 1) 30 (.int .i64 42) := ((HI.out.b2.other (by omega) _).set _).other (by omega) _
      have q3 : Boxed (((W.setCell ⟨w.heap.size + 1, 0, none⟩ (.slice none 0 0)).setCell ⟨w.heap.size + 1 + 1, 0, none⟩ (.int .i64 42)).setCell ⟨w.heap.size + 1 + 1 + 1, 0, none⟩ (.int .i64 (k : Int))) (w.heap.size + 1 + 1 + 1) 3 (.int .i64 (k : Int)) := ((HI.out.b3.other (by omega) _).other (by omega) _).set _
      exact ⟨((Kept.set HI.out.b1 (by decide) (by omega) _).trans (Kept.set (HI.out.b2.other (by omega) _) (by decide) (by omega) _)).trans (Kept.set ((HI.out.b3.other (by omega) _).other (by omega) _) (by decide) (by omega) _), q1, q2, q3, ((hB.setCell (Nat.le_succ _) _).setCell (by show w.heap.size ≤ w.heap.size + 1 + 1; omega) _).setCell (by show w.heap.size ≤ w.heap.size + 1 + 1 + 1; omega) _, fst_hit HI.out.near (farO_yes hfar) hk⟩
    · have hfar' : ¬ (16384 : Int) ≤ (bsF l k : Int) + ((ob l k).code.length : Int) := by omega
      gi_wp2_with (gi_at_builtin; go_loud (refine wpListIn_append_own _ rfl _ _ 33 rfl (w.heap.size + 1 + 1 + 1 + 1) 3 i0 (.int .i64 0) 1 8 Tryz.underlying33 hi0 hz0 hz1 hz2 rfl (by decide) _ _ _ rfl (HR2.out.alloc _) ⟨W.heap.size, 0, none⟩ 1 1 [.int .i64 (bsF l k : Int)] rfl rfl (cell_one_new _ _ _) one_one (by unfold maxLen; omega) (by omega) (by simp; omega) ?_; intro v' w1 hown' hgrow _; obtain ⟨g', cap', rfl⟩ := ownsRow_succ hown'; obtain ⟨hv1, hv2, hr2, hk2, hb2⟩ := HR1.out.appended (by decide) HR2.out (by omega) (by omega) hown' hgrow; have hc1 := hv1.cell; have hf1 := hv1.frozen))
      have HV1 : Hid (Boxed w1 (w.heap.size + 1 + 1 + 1 + 1) 33 (.slice O k c)) := hv1
      have hal : (W.alloc (.cells #[.int .i64 (bsF l k : Int)] 3)).ownsRow (w.heap.size + 1 + 1 + 1 + 1) 3 1 (.slice O k c) k (vI (basT l k)) := HR2.out.alloc _
      have p0 := (box_past (HI.out.b0.alloc (.cells #[.int .i64 (bsF l k : Int)] 3)) hal hgrow (.inl (by omega))).other (B' := w.heap.size + 1 + 1 + 1 + 1) (by omega) (.slice (some ⟨g', 0, none⟩) (k + 1) cap')
      have p1 := (box_past (HI.out.b1.alloc (.cells #[.int .i64 (bsF l k : Int)] 3)) hal hgrow (.inl (by omega))).other (B' := w.heap.size + 1 + 1 + 1 + 1) (by omega) (.slice (some ⟨g', 0, none⟩) (k + 1) cap')
      have p2 := (box_past (HI.out.b2.alloc (.cells #[.int .i64 (bsF l k : Int)] 3)) hal hgrow (.inl (by omega))).other (B' := w.heap.size + 1 + 1 + 1 + 1) (by omega) (.slice (some ⟨g', 0, none⟩) (k + 1) cap')
      have p3 := (box_past (HI.out.b3.alloc (.cells #[.int .i64 (bsF l k : Int)] 3)) hal hgrow (.inl (by omega))).other (B' := w.heap.size + 1 + 1 + 1 + 1) (by omega) (.slice (some ⟨g', 0, none⟩) (k + 1) cap')
      refine ⟨((Kept.of (lb_alloc (Below.refl _ _) _) (by omega)).trans (Kept.row hal hgrow (by decide) (by omega) (by simp; omega))).trans (Kept.set hv1 (by decide) (by omega) _), p0, p1, p2, p3, ⟨_, _, hv2, by rw [basT_succ, vI_snoc]; exact hr2⟩, HI.out.low.trans (hb2.mono (by omega)), fun j hj => ?_⟩
      by_cases hj2 : j < k
      · exact HI.out.near j hj2
      · obtain rfl : j = k := by omega
        exact farO_no hfar
  case done =>
    intro D W hD hI hK
    have HI : Hid (BofI l A ca w l.length W) := hI
    obtain ⟨O, c, r1, r2⟩ := hI.row
    have HR2 : Hid (W.ownsRow (w.heap.size + 1 + 1 + 1 + 1) 3 1 (.slice O l.length c) l.length (vI (basT l l.length))) := r2
    have hb5 := r1.cell
    have f1 := hI.b1.frozen
    have f2 := hI.b2.frozen
    have f3 := hI.b3.frozen
    have c1 := hI.b1.cell
    have c2 := hI.b2.cell
    have c3 := hI.b3.cell
    have HK : Hid (W.heap[D]? = some (.deferred (some []))) := hK
    clear hI r1 r2 hK
    have hB := HI.out.low
    gi_wp2
    obtain ⟨W3, hW3⟩ : ∃ W3, W3 = (((W.setCell ⟨w.heap.size + 1, 0, none⟩ (.slice O l.length c)).setCell ⟨w.heap.size + 1 + 1, 0, none⟩ (.int .i64 0)).setCell ⟨w.heap.size + 1 + 1 + 1, 0, none⟩ (.int .i64 0)) := ⟨_, rfl⟩
    rw [← hW3]
    have q1 : Boxed W3 (w.heap.size + 1) 33 (.slice O l.length c) := by rw [hW3]; exact ((HI.out.b1.set _).other (by omega) _).other (by omega) _
    have q2 : Boxed W3 (w.heap.size + 1 + 1) 30 (.int .i64 0) := by rw [hW3]; exact ((HI.out.b2.other (by omega) _).set _).other (by omega) _
    have q3 : Boxed W3 (w.heap.size + 1 + 1 + 1) 3 (.int .i64 0) := by rw [hW3]; exact ((HI.out.b3.other (by omega) _).other (by omega) _).set _
    have qK : W3.heap[D]? = some (.deferred (some [])) := by rw [hW3]; exact (((KeepsOthers.setCell _ _ _).trans (KeepsOthers.setCell _ _ _)).trans (KeepsOthers.setCell _ _ _)).same D _ HK.out rfl
    have qB : Below w.heap.size w W3 := by rw [hW3]; exact ((hB.setCell (Nat.le_succ _) _).setCell (by show w.heap.size ≤ w.heap.size + 1 + 1; omega) _).setCell (by show w.heap.size ≤ w.heap.size + 1 + 1 + 1; omega) _
    have qR : W3.ownsRow w.heap.size 3 1 (.slice O l.length c) l.length (vI (basT l l.length)) := by
      rw [hW3]
      exact own_base (own_set3b HR2.out (by omega) (by omega) (by omega)) (by omega)
    clear hW3
    have far := grownBy_putObj' W3 D (.deferred none)
    have hne : ∀ B t v, Boxed W3 B t v → some B ≠ some D := fun B t v h e => by cases e; rw [show W3.heap[D]? = _ from h] at qK; cases qK
    have z1 := (q1.kept far (hne _ _ _ q1)).cell
    have z2 := (q2.kept far (hne _ _ _ q2)).cell
    have z3 := (q3.kept far (hne _ _ _ q3)).cell
    refine ⟨by simp, .inl ⟨_, _, rfl, run_takeDeferred qK, ?_⟩⟩
    refine ⟨.tuple #[.slice O l.length c, .int .i64 0, .int .i64 0], by simp [results, Tryz.results37, go_sem, z1, z2, z3], ?_⟩
    exact .inr ⟨fst_none HI.out.near, O, c, rfl, ownsRow_putObj qR _ qK rfl, qB.trans (belowK_b (w := w) (Nat.le_refl _) W3 D _ _ (by omega) qK rfl rfl)⟩
  case stop =>
    intro D k W hD hk hX hK
    show bodyPostM Fence.wide 5 Tryz.prog Tryz.f37 (BofP l w) .ret _ _
    have far := grownBy_putObj' W D (.deferred none)
    have hne : ∀ B t v, Boxed W B t v → some B ≠ some D := fun B t v h e => by cases e; rw [show W.heap[D]? = _ from h] at hK; cases hK
    have z1 := (hX.b1.kept far (hne _ _ _ hX.b1)).cell
    have z2 := (hX.b2.kept far (hne _ _ _ hX.b2)).cell
    have z3 := (hX.b3.kept far (hne _ _ _ hX.b3)).cell
    refine ⟨by simp, .inl ⟨_, _, rfl, run_takeDeferred hK, ?_⟩⟩
    refine ⟨.tuple #[.slice none 0 0, .int .i64 42, .int .i64 (k : Int)], by simp [results, Tryz.results37, go_sem, z1, z2, z3], ?_⟩
    exact .inl ⟨k, hX.far, rfl, hX.low.trans (belowK_b (w := w) (Nat.le_refl _) W D _ _ (by omega) hK rfl rfl)⟩

end Go.Proofs.YthpkekpojhmaaaaGreatDoor
