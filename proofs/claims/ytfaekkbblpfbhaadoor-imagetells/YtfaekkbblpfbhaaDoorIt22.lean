/-
  Rows of a bag, as a walk wants them; no Go in sight. Takers, an image that grows and its two rows, while the program takes an image; no Go in sight.
-/
import Derived.Test.YtfaekkbblpfbhaaDoorProg
import Derived.WalkKit
import Derived.WalkSpells
import Derived.WalkLawsBesides
import Derived.RowKit3
import Derived.Below
import Derived.Deep.QuietTactic
import Derived.BigQuiet
import Derived.WalkSmall
import Derived.Laws.Rows
import Derived.Test.YtfaekkbblpfbhaaDoorIt21
import Derived.Test.YtfaekkbblpfbhaaDoorIt01
import Derived.Deep.AppendLies
import Derived.Laws.OwnMore
namespace Go.Proofs.YtfaekkbblpfbhaaDoor
open Go.RowKit


theorem Fr.cell {rs : List (Value × Nat)} {w0 w : World} (h : Fr rs w0 w) {a : Addr} {v : Value} (hc : w0.cell? a = some v) (hB : ∀ m, m < rs.length → (rv rs m).ownBlock ≠ some a.block) : w.cell? a = some v :=
  (World.cell?_of_block (h.block a.block (World.block_lt_of_cell? w0 a hc) hB)).trans hc
theorem Fr.refl (rs : List (Value × Nat)) (w : World) : Fr rs w w := ⟨rfl, rfl, rfl, Nat.le_refl _, fun _ _ _ => rfl⟩
/-- A row's value, written out. -/
theorem own_any {w : World} {base : Nat} {e : TypeId} {size : Nat} {v : Value} {n : Nat} {xs : List Value} (h : w.ownsRow base e size v n xs) : ∃ A c, v = .slice A n c ∧ n ≤ c := by
  rcases h.2 with ⟨rfl, rfl⟩ | ⟨g, cap, cur, rfl, _, _, hc, _⟩
  · exact ⟨none, 0, rfl, Nat.le_refl _⟩
  · exact ⟨_, _, rfl, hc⟩
/-- The value at a place of a list of lists. -/
theorem vn_get (l : List Value) (m : Nat) (h : m < l.length) : l[m]? = some (vn l m) := by simp [vn, h]
theorem outer_at {w : World} {TS : TypeId} {A : Option Addr} {n cV : Nat} {l : List Value} (h : w.ownsRow 0 TS 1 (.slice A n cV) n l) (m : Nat) (hm : m < n) : ∃ a, A = some a ∧ w.cell? (a.add m) = some (vn l m) := by
  have hl : l.length = n := by have := h.1; omega
  obtain ⟨g, cap, e, _, _⟩ := h.form (by omega)
  cases e
  exact ⟨_, rfl, h.cells rfl m _ (vn_get l m (by omega))⟩
theorem bag_at {rs : List (Value × Nat)} {w : World} {TS : TypeId} {A : Option Addr} {cV : Nat} (h : w.ownsRow 0 TS 1 (.slice A rs.length cV) rs.length (rs.map Prod.fst)) (m : Nat) (hm : m < rs.length) : ∃ a, A = some a ∧ w.cell? (a.add m) = some (rv rs m) := by
  rw [← vn_map rs m hm]
  exact outer_at h m hm
/-- A cell of a row. -/
theorem row_cell {w : World} {e : TypeId} {size g n c : Nat} {xs : List Value} (h : w.ownsRow 0 e size (.slice (some ⟨g, 0, none⟩) n c) n xs) (j : Nat) (hj : j < n * size) : ∃ u, w.cell? ((⟨g, 0, none⟩ : Addr).add j) = some u :=
  ⟨_, h.cells rfl j _ (List.getElem?_eq_getElem (by rw [h.1]; exact hj))⟩

theorem row_cell0 {w : World} {e : TypeId} {size g n c : Nat} {xs : List Value} (h : w.ownsRow 0 e size (.slice (some ⟨g, 0, none⟩) n c) n xs) (j : Nat) (hj : j < n * size) : ∃ u, w.cell? ⟨g, j, none⟩ = some u := by
  obtain ⟨u, hu⟩ := row_cell h j hj
  rw [Addr.add_lit, Nat.zero_add] at hu
  exact ⟨u, hu⟩
theorem take_set {xs M : List Value} {p : Nat} (h : xs.take p = M) (hp : p < xs.length) (u : Value) : (xs.set p u).take (p + 1) = M ++ [u] := by
  rw [List.take_set, List.take_succ_eq_append_getElem hp, h]
  have hl : M.length = p := by rw [← h, List.length_take]; omega
  rw [List.set_append_right _ _ (by omega), hl, Nat.sub_self]
  rfl
/-- Marks being written, cell by cell. -/
structure Wm (T TS : TypeId) (size : Nat) (mk : Nat → Nat → List Value) (rs : List (Value × Nat)) (V : Value) (w0 w : World) (n i : Nat) : Prop where
  wr : Wr T size mk rs w n i
  bag : w.ownsRow 0 TS 1 V rs.length (rs.map Prod.fst)
  fr : Fr rs w0 w
section
variable {T TS : TypeId} {size : Nat} {mk : Nat → Nat → List Value} {rs : List (Value × Nat)} {V : Value} {w0 w : World} {n i : Nat}
theorem Wm.next (h : Wm T TS size mk rs V w0 w n (rl rs n)) : Wm T TS size mk rs V w0 w (n + 1) 0 := ⟨h.wr.next, h.bag, h.fr⟩
theorem Wm.start (hV : w.ownsRow 0 TS 1 V rs.length (rs.map Prod.fst)) (hR : ∀ m, m < rs.length → ∃ xs, w.ownsRow 0 T size (rv rs m) (rl rs m) xs) : Wm T TS size mk rs V w w 0 0 :=
  ⟨fun m hm => by
    obtain ⟨xs, hx⟩ := hR m hm
    exact ⟨xs, hx, fun h => by omega, fun _ => by simp [marks]⟩, hV, Fr.refl rs w⟩
theorem Wm.row (h : Wm T TS size mk rs V w0 w n i) {m : Nat} (hm : m < rs.length) : ∃ xs, w.ownsRow 0 T size (rv rs m) (rl rs m) xs := by
  obtain ⟨xs, hx, _⟩ := h.wr m hm
  exact ⟨xs, hx⟩
/-- A mark is written. -/
theorem Wm.step {w' : World} (hs : Sep rs) (hT : T ≠ TS) (h : Wm T TS size mk rs V w0 w n i) (hn : n < rs.length) (hg : w.grownBy w' (rv rs n).ownBlock) (ho : ∀ xs, w.ownsRow 0 T size (rv rs n) (rl rs n) xs → xs.take (i * size) = marks mk n i → ∃ ys, w'.ownsRow 0 T size (rv rs n) (rl rs n) ys ∧ ys.take ((i + 1) * size) = marks mk n (i + 1)) : Wm T TS size mk rs V w0 w' n (i + 1) := by
  obtain ⟨xs, hx⟩ := h.row hn
  exact ⟨h.wr.step hs hn hg ho, own_other h.bag hg (own_not hx hT), h.fr.grown hg fun b hb => .inr ⟨n, hn, hb⟩⟩
theorem grown_trans {a b c : World} {row : Option Nat} (h : a.grownBy b row) (k : b.grownBy c row) : a.grownBy c row :=
  ⟨k.os.trans h.os, k.tape.trans h.tape, k.output.trans h.output, Nat.le_trans h.size k.size, fun x hx hn => (k.block x (Nat.lt_of_lt_of_le hx h.size) hn).trans (h.block x hx hn)⟩
theorem Wm.step1 {g c : Nat} {u : Value} (hs : Sep rs) (hT : T ≠ TS) (h : Wm T TS 1 mk rs V w0 w n i) (hn : n < rs.length) (hi : i < rl rs n) (e : rv rs n = .slice (some ⟨g, 0, none⟩) (rl rs n) c) (hu : mk n i = [u]) : Wm T TS 1 mk rs V w0 (w.setCell ⟨g, i, none⟩ u) n (i + 1) := by
  obtain ⟨xs, hx⟩ := h.row hn
  rw [e] at hx
  refine h.step hs hT hn (by rw [e]; exact (hx.stored i u).2) fun xs hx ht => ?_
  rw [e] at hx ⊢
  refine ⟨_, (hx.stored i u).1, ?_⟩
  rw [Nat.mul_one] at ht ⊢
  rw [take_set ht (by rw [hx.1]; omega), marks_succ, hu]
theorem Wm.step2 {g c : Nat} {u v : Value} (hs : Sep rs) (hT : T ≠ TS) (h : Wm T TS 2 mk rs V w0 w n i) (hn : n < rs.length) (hi : i < rl rs n) (e : rv rs n = .slice (some ⟨g, 0, none⟩) (rl rs n) c) (hu : mk n i = [u, v]) : Wm T TS 2 mk rs V w0 ((w.setCell ⟨g, i * 2, none⟩ u).setCell ⟨g, i * 2 + 1, none⟩ v) n (i + 1) := by
  obtain ⟨xs, hx⟩ := h.row hn
  rw [e] at hx
  refine h.step hs hT hn (by rw [e]; exact grown_trans (hx.stored (i * 2) u).2 ((hx.stored (i * 2) u).1.stored (i * 2 + 1) v).2) fun xs hx ht => ?_
  rw [e] at hx ⊢
  refine ⟨_, ((hx.stored (i * 2) u).1.stored (i * 2 + 1) v).1, ?_⟩
  have h1 := take_set ht (by rw [hx.1]; omega) u
  have h2 := take_set h1 (by rw [List.length_set, hx.1]; omega) v
  rw [show (i + 1) * 2 = i * 2 + 1 + 1 by omega, h2, marks_succ, hu, List.append_assoc]
  rfl
theorem Wm.step3 {g c : Nat} {u v x : Value} (hs : Sep rs) (hT : T ≠ TS) (h : Wm T TS 3 mk rs V w0 w n i) (hn : n < rs.length) (hi : i < rl rs n) (e : rv rs n = .slice (some ⟨g, 0, none⟩) (rl rs n) c) (hu : mk n i = [u, v, x]) : Wm T TS 3 mk rs V w0 (((w.setCell ⟨g, i * 3, none⟩ u).setCell ⟨g, i * 3 + 1, none⟩ v).setCell ⟨g, i * 3 + 2, none⟩ x) n (i + 1) := by
  obtain ⟨xs, hx⟩ := h.row hn
  rw [e] at hx
  refine h.step hs hT hn (by rw [e]; exact grown_trans (grown_trans (hx.stored (i * 3) u).2 ((hx.stored (i * 3) u).1.stored (i * 3 + 1) v).2) (((hx.stored (i * 3) u).1.stored (i * 3 + 1) v).1.stored (i * 3 + 2) x).2) fun xs hx ht => ?_
  rw [e] at hx ⊢
  refine ⟨_, (((hx.stored (i * 3) u).1.stored (i * 3 + 1) v).1.stored (i * 3 + 2) x).1, ?_⟩
  have h1 := take_set ht (by rw [hx.1]; omega) u
  have h2 := take_set h1 (by rw [List.length_set, hx.1]; omega) v
  have h3 := take_set h2 (by rw [List.length_set, List.length_set, hx.1]; omega) x
  rw [show (i + 1) * 3 = i * 3 + 1 + 1 + 1 by omega, h3, marks_succ, hu, List.append_assoc, List.append_assoc]
  rfl
theorem Wm.out (hs : Sep rs) (h : Wm T TS size mk rs V w0 w rs.length 0) : Out T TS size mk rs w0 w 0 V (.slice none 0 0) (.slice none 0 0) [] [] := Wr.out hs h.wr h.bag h.fr
/-- A new block is made. -/
theorem Out.alloc {O M : Value} {os ms : List Value} (h : Out T TS size mk rs w0 w n V O M os ms) (o : Obj) : Out T TS size mk rs w0 (w.alloc o) n V O M os ms :=
  h.other (World.grownBy_alloc w o none) (fun b e => by cases e) (fun b e => by cases e) (fun b e => by cases e)
theorem Ap.alloc {O M l : Value} {os ms : List Value} (h : Ap T TS size mk rs w0 w n V O M os ms l i) (o : Obj) : Ap T TS size mk rs w0 (w.alloc o) n V O M os ms l i :=
  ⟨h.out.alloc o, h.cur.alloc o, h.my, h.far, h.safe⟩
/-- What a held row's cells are. -/
theorem own_mark {g L c k j : Nat} (hmk : ∀ n i, (mk n i).length = size) (h : w.ownsRow 0 T size (.slice (some ⟨g, 0, none⟩) L c) L (marks mk k L)) (hi : i < L) (hj : j < size) {u : Value} (hu : (mk k i)[j]? = some u) : w.cell? ⟨g, i * size + j, none⟩ = some u := by
  have := h.cells rfl (i * size + j) u (by rw [marks_get hmk k hi hj]; exact hu)
  rwa [Addr.add_lit, Nat.zero_add] at this
theorem Out.row {O M : Value} {os ms : List Value} (h : Out T TS size mk rs w0 w n V O M os ms) (k : Nat) (hk : k < rs.length) : w.ownsRow 0 T size (rv rs k) (rl rs k) (marks mk k (rl rs k)) := (h.held _ _ _ (.inl ⟨hk, rfl, rfl⟩)).1
theorem Out.ones {O M : Value} {os ms : List Value} (h : Out T TS size mk rs w0 w n V O M os ms) (k : Nat) (hk : k < os.length) : w.ownsRow 0 T size (vn os k) (rl rs k + 1) (marks mk k (rl rs k + 1)) := (h.held _ _ _ (.inr (.inl ⟨hk, rfl, rfl⟩))).1
theorem Out.mores {O M : Value} {os ms : List Value} (h : Out T TS size mk rs w0 w n V O M os ms) (k : Nat) (hk : k < ms.length) : w.ownsRow 0 T size (vn ms k) (rl rs k + 70) (marks mk k (rl rs k + 70)) := (h.held _ _ _ (.inr (.inr ⟨hk, rfl, rfl⟩))).1
end


end Go.Proofs.YtfaekkbblpfbhaaDoor

namespace Go.Proofs.YtfaekkbblpfbhaaDoor
open Go.RowKit

/-- What is taken from where t stands: the text, Entry, the memory. -/
def jText (b : List Int) (t : Tk) : List Int × Tk := tAll b 16384 (tFour b) t
def jEnt (b : List Int) (t : Tk) : Int × Tk := tFour b (jText b t).2
def jMem (b : List Int) (t : Tk) : List Int × Tk := tAll b 4096 (tEight b) (jEnt b t).2
/-- A number of 32 bits, as it goes round. -/
def s32 (x : Int) : Int := if x < 2147483648 then x else x - 4294967296
theorem jmem_text {b : List Int} {t : Tk} (h : ¬ (jText b t).2.bad = 0) : (jMem b t).2 = (jText b t).2 := by
  unfold jMem jEnt
  rw [four_stick h, all_stick h]
theorem jmem_ent {b : List Int} {t : Tk} (h : ¬ (jEnt b t).2.bad = 0) : (jMem b t).2 = (jEnt b t).2 := by
  unfold jMem
  rw [all_stick h]
theorem jtext_count {b : List Int} {t : Tk} (h : ¬ (tCount b 16384 t).2.bad = 0) : (jText b t).2 = (tCount b 16384 t).2 := all_bad h
theorem jmem_count {b : List Int} {t : Tk} (h : ¬ (tCount b 4096 (jEnt b t).2).2.bad = 0) : (jMem b t).2 = (tCount b 4096 (jEnt b t).2).2 := all_bad h
/-- Where the boxes lie. -/
structure Lay (n s ga gb gn gm B P : Nat) : Prop where
  a : ga < n
  b : gb < n
  c : gn < n
  d : gm < n
  e : B < n
  f : P < n
  ea : B ≠ ga
  fa : P ≠ ga
  fb : gb ≠ P
  fc : gn ≠ P
  fd : gm ≠ P
  fe : B ≠ P
  sP : s ≤ P
  sa : s ≤ ga
structure IMid (w0 w1 : World) (ga gb gn gm B P : Nat) (A : Option Addr) (c : Nat) (b : List Int) (p : Nat) (cs : Array Value) (V1 : Value) (n1 : Nat) (x1 : List Value) (V2 : Value) (n2 : Nat) (x2 : List Value) (wr : World) : Prop where
  tk : TkBy w0 ga gb gn gm A c b p wr
  tb : wr.heap[B]? = some (.cells #[.func (.func 92) #[] #[.pointer (some ⟨ga, 0, none⟩)], .func (.func 93) #[] #[.pointer (some ⟨ga, 0, none⟩), .pointer (some ⟨gb, 0, none⟩)], .func (.func 94) #[] #[.pointer (some ⟨gn, 0, none⟩)], .func (.func 95) #[] #[.pointer (some ⟨gm, 0, none⟩)], .func (.func 96) #[] #[.pointer (some ⟨ga, 0, none⟩), .pointer (some ⟨gm, 0, none⟩)]] 148 (0, 0))
  box : wr.heap[P]? = some (.cells cs 25 (0, 0))
  r1 : wr.ownsRow w1.heap.size 61 1 V1 n1 x1
  r2 : wr.ownsRow w1.heap.size 2 1 V2 n2 x2
  os : wr.os = w1.os
  tape : wr.tape = w1.tape
  output : wr.output = w1.output
  size : w1.heap.size ≤ wr.heap.size
  block : ∀ k, k < w1.heap.size → k ≠ ga → k ≠ P → wr.heap[k]? = w1.heap[k]?
section
variable {w0 w1 wr w2 : World} {ga gb gn gm B P : Nat} {A : Option Addr} {c : Nat} {b : List Int} {p : Nat} {cs : Array Value} {V1 : Value} {n1 : Nat} {x1 : List Value} {V2 : Value} {n2 : Nat} {x2 : List Value}
theorem TkBy.drew (h : TkBy w0 ga gb gn gm A c b p wr) : TkBy w0 ga gb gn gm A c b p wr.drew :=
  ⟨h.hat, h.hbx, h.hnx, h.hnu, h.ints, ⟨h.below.os, h.below.tape, h.below.output, h.below.size, h.below.block⟩, h.le, h.areB, h.len, h.cap, h.pos⟩
theorem TkBy.sameAt (h : TkBy w0 ga gb gn gm A c b p wr) (ea : w2.heap[ga]? = wr.heap[ga]?) (eb : w2.heap[gb]? = wr.heap[gb]?) (ec : w2.heap[gn]? = wr.heap[gn]?) (ed : w2.heap[gm]? = wr.heap[gm]?) (hb : Below w0.heap.size w0 w2) : TkBy w0 ga gb gn gm A c b p w2 :=
  ⟨ea.trans h.hat, eb.trans h.hbx, ec.trans h.hnx, ed.trans h.hnu, h.ints, hb, h.le, h.areB, h.len, h.cap, h.pos⟩
theorem IMid.drew (h : IMid w0 w1 ga gb gn gm B P A c b p cs V1 n1 x1 V2 n2 x2 wr) : IMid w0 w1 ga gb gn gm B P A c b p cs V1 n1 x1 V2 n2 x2 wr.drew := ⟨h.tk.drew, h.tb, h.box, h.r1, h.r2, h.os, h.tape, h.output, h.size, h.block⟩
theorem but_grew (h : But ga wr w2) : wr.grownBy w2 (some ga) := ⟨h.1, h.2.1, h.2.2.1, h.2.2.2.1, fun k hk hn => h.2.2.2.2 k hk (fun e => hn (by rw [e]))⟩
/-- A taker's call. -/
theorem IMid.take {p' : Nat} (h : IMid w0 w1 ga gb gn gm B P A c b p cs V1 n1 x1 V2 n2 x2 wr) (L : Lay w1.heap.size w0.heap.size ga gb gn gm B P) (hb : But ga wr w2) (ht : TkBy w0 ga gb gn gm A c b p' w2) : IMid w0 w1 ga gb gn gm B P A c b p' cs V1 n1 x1 V2 n2 x2 w2 :=
  ⟨ht, but_box hb h.tb L.ea, but_box hb h.box L.fa, row_but h.r1 L.a hb, row_but h.r2 L.a hb, hb.1.trans h.os, hb.2.1.trans h.tape, hb.2.2.1.trans h.output, Nat.le_trans h.size hb.2.2.2.1, fun k k1 k2 k3 => (hb.2.2.2.2 k (Nat.lt_of_lt_of_le k1 h.size) k2).trans (h.block k k1 k2 k3)⟩
/-- Another block is changed, or made. -/
theorem IMid.far {row : Option Nat} (h : IMid w0 w1 ga gb gn gm B P A c b p cs V1 n1 x1 V2 n2 x2 wr) (hg : wr.grownBy w2 row) (hr : ∀ b, row = some b → w1.heap.size ≤ b) (L : Lay w1.heap.size w0.heap.size ga gb gn gm B P) {V1' : Value} {n1' : Nat} {x1' : List Value} {V2' : Value} {n2' : Nat} {x2' : List Value}
    (h1 : w2.ownsRow w1.heap.size 61 1 V1' n1' x1') (h2 : w2.ownsRow w1.heap.size 2 1 V2' n2' x2') : IMid w0 w1 ga gb gn gm B P A c b p cs V1' n1' x1' V2' n2' x2' w2 := by
  have hs := h.size
  have hq : ∀ k, k < w1.heap.size → w2.heap[k]? = wr.heap[k]? := fun k hk => hg.block k (by omega) (fun e => by have := hr k e.symm; omega)
  have hs0 := L.sa
  have hs1 := L.a
  exact ⟨h.tk.sameAt (hq _ L.a) (hq _ L.b) (hq _ L.c) (hq _ L.d) (Below.grown h.tk.below hg h.tk.below.size (fun k hk => by have := hr k hk; omega)), (hq _ L.e).trans h.tb, (hq _ L.f).trans h.box, h1, h2, hg.os.trans h.os, hg.tape.trans h.tape, hg.output.trans h.output, Nat.le_trans h.size hg.size, fun k k1 k2 k3 => (hq k k1).trans (h.block k k1 k2 k3)⟩
theorem IMid.alloc (h : IMid w0 w1 ga gb gn gm B P A c b p cs V1 n1 x1 V2 n2 x2 wr) (L : Lay w1.heap.size w0.heap.size ga gb gn gm B P) (o : Obj) : IMid w0 w1 ga gb gn gm B P A c b p cs V1 n1 x1 V2 n2 x2 (wr.alloc o) :=
  h.far (World.grownBy_alloc wr o none) (fun b e => by cases e) L (h.r1.alloc o) (h.r2.alloc o)
/-- A row grows. -/
theorem IMid.grow1 {V1' : Value} {n1' : Nat} {x1' : List Value} (h : IMid w0 w1 ga gb gn gm B P A c b p cs V1 n1 x1 V2 n2 x2 wr) (L : Lay w1.heap.size w0.heap.size ga gb gn gm B P) (hg : wr.grownBy w2 V1.ownBlock) (ho : w2.ownsRow w1.heap.size 61 1 V1' n1' x1') : IMid w0 w1 ga gb gn gm B P A c b p cs V1' n1' x1' V2 n2 x2 w2 :=
  h.far hg (fun k e => (h.r1.lt k e).1) L ho (own_other h.r2 hg (own_not h.r1 (by decide)))
theorem IMid.grow2 {V2' : Value} {n2' : Nat} {x2' : List Value} (h : IMid w0 w1 ga gb gn gm B P A c b p cs V1 n1 x1 V2 n2 x2 wr) (L : Lay w1.heap.size w0.heap.size ga gb gn gm B P) (hg : wr.grownBy w2 V2.ownBlock) (ho : w2.ownsRow w1.heap.size 2 1 V2' n2' x2') : IMid w0 w1 ga gb gn gm B P A c b p cs V1 n1 x1 V2' n2' x2' w2 :=
  h.far hg (fun k e => (h.r2.lt k e).1) L (own_other h.r1 hg (own_not h.r2 (by decide))) ho
/-- A cell of the image is written. -/
theorem IMid.set (h : IMid w0 w1 ga gb gn gm B P A c b p cs V1 n1 x1 V2 n2 x2 wr) (L : Lay w1.heap.size w0.heap.size ga gb gn gm B P) (i : Nat) (u : Value) : IMid w0 w1 ga gb gn gm B P A c b p (cs.setIfInBounds i u) V1 n1 x1 V2 n2 x2 (wr.setCell ⟨P, i, none⟩ u) := by
  have hb : But P wr (wr.setCell ⟨P, i, none⟩ u) := (But.refl P wr).set i u
  have hq : ∀ k, k < w1.heap.size → k ≠ P → (wr.setCell ⟨P, i, none⟩ u).heap[k]? = wr.heap[k]? := fun k hk hn => hb.2.2.2.2 k (Nat.lt_of_lt_of_le hk h.size) hn
  refine ⟨h.tk.sameAt (hq _ L.a (fun e => L.fa e.symm)) (hq _ L.b L.fb) (hq _ L.c L.fc) (hq _ L.d L.fd) (hb.below h.tk.below L.sP), but_box hb h.tb L.fe, box_set h.box i u, row_but h.r1 L.f hb, row_but h.r2 L.f hb, h.os, h.tape, h.output, by simpa using h.size, fun k k1 k2 k3 => (hq k k1 k3).trans (h.block k k1 k2 k3)⟩
theorem IMid.but (h : IMid w0 w1 ga gb gn gm B P A c b p cs V1 n1 x1 V2 n2 x2 wr) {w : World} (hb : Below w.heap.size w w1) (hP : w.heap.size ≤ P) : But ga w wr :=
  ⟨h.os.trans hb.os, h.tape.trans hb.tape, h.output.trans hb.output, Nat.le_trans hb.size h.size, fun k k1 k2 => (h.block k (Nat.lt_of_lt_of_le k1 hb.size) k2 (by omega)).trans (hb.block k k1)⟩
end
/-- What taking an image answers. -/
def ImgP (w0 : World) (ga gb gn gm : Nat) (A : Option Addr) (c : Nat) (b : List Int) (p : Nat) (w : World) (r : Ending) (w' : World) : Prop :=
  But ga w w' ∧ (((jMem b ⟨p, 0, 0⟩).2.bad = 0 ∧ ∃ (A1 A2 : Option Addr) (c1 c2 : Nat), r = .returned (.agg #[.slice A1 (jText b ⟨p, 0, 0⟩).1.length c1, .int .i64 (s32 (jEnt b ⟨p, 0, 0⟩).1), .slice A2 (jMem b ⟨p, 0, 0⟩).1.length c2]) ∧ RowsI w' w.heap.size A1 A2 c1 c2 (jText b ⟨p, 0, 0⟩).1 (jMem b ⟨p, 0, 0⟩).1 ∧ TkBy w0 ga gb gn gm A c b (jMem b ⟨p, 0, 0⟩).2.pos w') ∨
    (¬ (jMem b ⟨p, 0, 0⟩).2.bad = 0 ∧ r = stopI (jMem b ⟨p, 0, 0⟩).2.bad (jMem b ⟨p, 0, 0⟩).2.place))
theorem imgP_no {w0 w w' : World} {ga gb gn gm c p : Nat} {A : Option Addr} {b : List Int} {t : Tk} (hb : But ga w w') (e : (jMem b ⟨p, 0, 0⟩).2 = t) (h : ¬ t.bad = 0) : ImgP w0 ga gb gn gm A c b p w (.panicked [{ v := .iface 85 (.agg #[.int .i64 t.bad, .int .i64 t.place]), recovered := false }]) w' := by
  subst e
  exact ⟨hb, Or.inr ⟨h, rfl⟩⟩
theorem imgP_yes {w0 w w' : World} {ga gb gn gm c p q c1 c2 : Nat} {A A1 A2 : Option Addr} {b text mem : List Int} {ent : Int} (hb : But ga w w') (e1 : (jText b ⟨p, 0, 0⟩).1 = text) (e2 : (jEnt b ⟨p, 0, 0⟩).1 = ent) (e3 : jMem b ⟨p, 0, 0⟩ = (mem, ⟨q, 0, 0⟩)) (hr : RowsI w' w.heap.size A1 A2 c1 c2 text mem) (ht : TkBy w0 ga gb gn gm A c b q w') : ImgP w0 ga gb gn gm A c b p w (.returned (.agg #[.slice A1 text.length c1, .int .i64 (s32 ent), .slice A2 mem.length c2])) w' := by
  refine ⟨hb, Or.inl ?_⟩
  rw [e1, e2, e3]
  exact ⟨rfl, A1, A2, c1, c2, rfl, hr, ht⟩

end Go.Proofs.YtfaekkbblpfbhaaDoor
