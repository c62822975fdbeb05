/-
  An output in memory: its box and its own row of bytes; no Go in sight. The program writes numbers and texts into an output; what is written is at most 2^20 bytes.
-/
import Derived.Test.YtfaekkbblpfbhaaDoorProg
import Derived.WalkKit
import Derived.WalkSpells
import Derived.WalkLawsBesides
import Derived.RowKit3
import Derived.Below
import Derived.Deep.QuietTactic
import Derived.BigQuiet
import Derived.WalkSmall
import Derived.Laws.Rows
import Derived.Test.YtfaekkbblpfbhaaDoorIr04
import Derived.Lib.AppendStr
namespace Go.Proofs.YtfaekkbblpfbhaaDoor
open Go.RowKit


/-- Bytes as cells. -/
def bNews (l : List Int) : List Value := l.map (Value.int .u8)
theorem bNews_len (l : List Int) : (bNews l).length = l.length := by simp [bNews]
theorem bNews_one (l : List Int) : ∀ u ∈ bNews l, u.oneCell' = true := fun u hu => by
  unfold bNews at hu
  obtain ⟨x, _, rfl⟩ := List.mem_map.1 hu
  rfl
theorem bNews_app (l r : List Int) : bNews l ++ bNews r = bNews (l ++ r) := by simp [bNews]
theorem be4_mod (x : Int) : be4 (x % 4294967296) = be4 x := by
  simp only [be4, List.cons.injEq, and_true]
  omega
/-- An output's box at g holds a row of its own that reads l. -/
def OutAt (w : World) (g : Nat) (l : List Int) : Prop :=
  ∃ v, w.heap[g]? = some (.cells #[v] 77 (0, 0)) ∧ w.ownsRow (g + 1) 5 1 v l.length (bNews l)
/-- No row of bytes. -/
def NoB (w : World) (k : Nat) : Prop := ∀ cur, w.heap[k]? ≠ some (.cells cur 5 (0, 0))
/-- Nothing is other but the box g and rows of bytes behind it. -/
structure OutTo (g : Nat) (w w' : World) : Prop where
  os : w'.os = w.os
  tape : w'.tape = w.tape
  output : w'.output = w.output
  size : w.heap.size ≤ w'.heap.size
  block : ∀ k, k < w.heap.size → k ≠ g → (k < g ∨ NoB w k) → w'.heap[k]? = w.heap[k]?
theorem OutTo.refl (g : Nat) (w : World) : OutTo g w w := ⟨rfl, rfl, rfl, Nat.le_refl _, fun _ _ _ _ => rfl⟩
theorem OutTo.trans {g : Nat} {w w1 w2 : World} (h : OutTo g w w1) (k : OutTo g w1 w2) : OutTo g w w2 := by
  refine ⟨k.os.trans h.os, k.tape.trans h.tape, k.output.trans h.output, Nat.le_trans h.size k.size, fun i hi hg hr => ?_⟩
  have e := h.block i hi hg hr
  refine (k.block i (Nat.lt_of_lt_of_le hi h.size) hg ?_).trans e
  rcases hr with hr | hr
  · exact Or.inl hr
  · exact Or.inr fun cur => by rw [e]; exact hr cur
theorem OutTo.of {g : Nat} {w w1 : World} (hb : Below w.heap.size w w1) : OutTo g w w1 := ⟨hb.os, hb.tape, hb.output, hb.size, fun i hi _ _ => hb.block i hi⟩
theorem OutAt.lt {w : World} {g : Nat} {l : List Int} (h : OutAt w g l) : g < w.heap.size := by
  obtain ⟨v, hv, _⟩ := h
  exact (Array.getElem?_eq_some_iff.1 hv).1
theorem OutAt.keep {w w1 : World} {g : Nat} {l : List Int} (h : OutAt w g l) (hb : Below w.heap.size w w1) : OutAt w1 g l := by
  have hg := h.lt
  obtain ⟨v, hv, ho⟩ := h
  refine ⟨v, by rw [hb.block g hg]; exact hv, ho.kept (row := none) ⟨hb.os, hb.tape, hb.output, hb.size, fun k hk _ => hb.block k hk⟩ ?_⟩
  cases hv : v.ownBlock <;> simp
theorem OutTo.below {g : Nat} {w w1 : World} (hg : g < w.heap.size) (k : OutTo g w w1) : Below g w w1 :=
  ⟨k.os, k.tape, k.output, k.size, fun i hi => k.block i (by omega) (by omega) (Or.inl hi)⟩
/-- A block that is no row of bytes and not the box stays. -/
theorem OutTo.box {g : Nat} {w w1 : World} (k : OutTo g w w1) {B : Nat} {cur : Array Value} {t : TypeId} (hb : w.heap[B]? = some (.cells cur t (0, 0))) (ht : t ≠ 5) (hg : B ≠ g) : w1.heap[B]? = some (.cells cur t (0, 0)) := by
  rw [k.block B (Array.getElem?_eq_some_iff.1 hb).1 hg (Or.inr fun c => by rw [hb]; intro e; cases e; exact ht rfl)]; exact hb
theorem OutTo.cell {g : Nat} {w w1 : World} (k : OutTo g w w1) (hgw : g < w.heap.size) {p : Addr} {v : Value} (hc : w.cell? p = some v) (hg : p.block < g) : w1.cell? p = some v := by
  rw [World.cell?_of_block (w := w) ((k.below hgw).block p.block hg)]; exact hc
theorem own_noB {w : World} {g n k : Nat} {v : Value} {xs : List Value} (h : w.ownsRow (g + 1) 5 1 v n xs) (hk : k < g ∨ NoB w k) : some k ≠ v.ownBlock := fun e => by
  have hl := h.lt k e.symm
  rcases hk with hk | hk
  · omega
  · rcases h.2 with ⟨rfl, _⟩ | ⟨j, cap, cur, rfl, _, hj, _⟩
    · cases e
    · cases e
      exact hk cur hj
/-- A row grown, and put into the box. -/
theorem out_grown {g : Nat} {w w1 : World} {v v' A : Value} {n m : Nat} {xs : List Value} {l : List Int} (hbox : w.heap[g]? = some (.cells #[A] 77 (0, 0))) (ho : w.ownsRow (g + 1) 5 1 v n xs) (hs : w.grownBy w1 v.ownBlock) (ho' : w1.ownsRow (g + 1) 5 1 v' m (bNews l)) (hm : m = l.length) :
    OutAt (w1.setCell ⟨g, 0, none⟩ v') g l ∧ OutTo g w (w1.setCell ⟨g, 0, none⟩ v') := by
  have hg := (Array.getElem?_eq_some_iff.1 hbox).1
  have h1 : w1.heap[g]? = some (.cells #[A] 77 (0, 0)) := by
    rw [hs.block g hg (fun e => by have := ho.lt g e.symm; omega)]; exact hbox
  subst hm
  refine ⟨⟨v', ?_, ?_⟩, ⟨hs.os, hs.tape, hs.output, by simpa [go_sem] using hs.size, fun k hk hg hr => (Below.heap_setCell _ _ _ _ hg).trans (hs.block k hk (own_noB ho hr))⟩⟩
  · simp [World.setCell, Array.getElem?_modify, h1]
  · exact ownsRow_setCell_below ho' (by show g < g + 1; omega) v'
theorem box_cell {w : World} {g : Nat} {A : Value} (h : w.heap[g]? = some (.cells #[A] 77 (0, 0))) : w.cell? ⟨g, 0, none⟩ = some A ∧ w.frozen? ⟨g, 0, none⟩ = false := by
  constructor
  · simp [World.cell?, h]
  · simp [World.frozen?, h]


end Go.Proofs.YtfaekkbblpfbhaaDoor

namespace Go.Proofs.YtfaekkbblpfbhaaDoor
open Go.RowKit


theorem info5 : ∃ i, Tryd.prog.info? 5 = some i ∧ i.zero = some (.int .u8 0) ∧ i.size = 1 ∧ i.bytes = 1 :=
  ⟨(Tryd.prog.info? 5).get (by kernel_rfl), by kernel_rfl, by kernel_rfl, by kernel_rfl, by kernel_rfl⟩
/-- What a writer of bytes e does. -/
def Puts (g : Nat) (l e : List Int) (w : World) (r : Ending) (w' : World) : Prop := r = .returned (.tuple #[]) ∧ OutAt w' g (l ++ e) ∧ OutTo g w w'
theorem new_lit (w : World) (l : List Int) (h : l.length ≤ 1048576) : (w.alloc (.cells (bNews l).toArray 5)).ownsRow w.heap.size 5 1 (.slice (some ⟨w.heap.size, 0, none⟩) l.length l.length) l.length (bNews l) := by
  refine ⟨by rw [bNews_len]; omega, Or.inr ⟨w.heap.size, l.length, (bNews l).toArray, rfl, Nat.le_refl _, heap_alloc_new _ _, Nat.le_refl _, by unfold maxLen; omega, by simp [bNews], ?_⟩⟩
  simp only [Nat.mul_one]
  rw [← bNews_len l]
  exact List.take_length
theorem lit_cells (w : World) (l : List Int) (h : l.length ≤ 1048576) : ∀ j u, (bNews l)[j]? = some u → (w.alloc (.cells (bNews l).toArray 5)).cell? ((⟨w.heap.size, 0, none⟩ : Addr).add j) = some u := (new_lit w l h).cells rfl
/-- The box behind a growth. -/
theorem box_grown {w w1 : World} {g n : Nat} {v A : Value} {xs : List Value} (hv : w.heap[g]? = some (.cells #[A] 77 (0, 0))) (ho : w.ownsRow (g + 1) 5 1 v n xs) (hs : w.grownBy w1 v.ownBlock) : w1.cell? ⟨g, 0, none⟩ = some A ∧ w1.frozen? ⟨g, 0, none⟩ = false :=
  box_cell (by rw [hs.block g (Array.getElem?_eq_some_iff.1 hv).1 (fun e => by have := ho.lt g e.symm; omega)]; exact hv)
theorem slice_form {w : World} {b n : Nat} {v : Value} {xs : List Value} (h : w.ownsRow b 5 1 v n xs) : ∃ A n c, v = .slice A n c := by
  rcases h.2 with ⟨rfl, _⟩ | ⟨g, cap, cur, rfl, _⟩
  · exact ⟨_, _, _, rfl⟩
  · exact ⟨_, _, _, rfl⟩
set_option maxRecDepth 100000 in
set_option maxHeartbeats 1000000 in
theorem wNumber (g : Nat) (l : List Int) (n : Int) (h0 : 0 ≤ n) (h1 : n < 4294967296) (hl : l.length + 4 ≤ 1048576) (w : World) (ho : OutAt w g l) : Calls Tryd.prog 36 #[.pointer (some ⟨g, 0, none⟩), .int .u32 n] w (Puts g l (be4 n) w) := by
  obtain ⟨i0, hi, hz0, hz1, hz2⟩ := info5
  have hg := ho.lt
  obtain ⟨v, hv, hr⟩ := ho
  have hcell := (box_cell hv).1
  have hfro := (box_cell hv).2
  have e1 : n / 16777216 < 256 := by omega
  have HE : Hid (be4 n = [n / 16777216, n / 65536 % 256, n / 256 % 256, n % 256]) := by
    unfold Hid be4
    congr 1
    omega
  have hc := lit_cells w [n / 16777216, n / 65536 % 256, n / 256 % 256, n % 256] (by simp)
  have hr1 := hr.alloc (.cells (bNews [n / 16777216, n / 65536 % 256, n / 256 % 256, n % 256]).toArray 5)
  have hv1 : Hid ((w.alloc (.cells (bNews [n / 16777216, n / 65536 % 256, n / 256 % 256, n % 256]).toArray 5)).heap[g]? = some (.cells #[v] 77 (0, 0))) := by
    show _ = _
    rw [(lb_alloc (Below.refl _ w) _).block g hg]; exact hv
  have HV : Hid _ := hv
  clear hv
  go_enter Tryd.func36, Tryd.ntmps36
  go_wp2_with (at_builtin; refine wpList_append_own _ rfl (.tmp 8) (.tmp 20) 32 rfl (g + 1) 5 i0 (.int .u8 0) 1 1 Tryd.underlying32 hi hz0 hz1 hz2 rfl (by decide) v l.length (bNews l) rfl hr1 ⟨w.heap.size, 0, none⟩ 4 4 (bNews [n / 16777216, n / 65536 % 256, n / 256 % 256, n % 256]) rfl rfl hc (bNews_one _) (by unfold maxLen; omega) (by omega) (by simp; omega) ?_; intro v' w' hown hgrow hnil; obtain ⟨hcell', hfro'⟩ := box_grown hv1.out hr1 hgrow; have HO : Hid _ := hown; have HG : Hid _ := hgrow; obtain ⟨A', n', c', rfl⟩ := slice_form hown; clear hown hgrow hnil)
  go_end0
  have hq : w'.ownsRow (g + 1) 5 1 (.slice A' n' c') (l.length + 4) (bNews (l ++ be4 n)) := by rw [HE.out, ← bNews_app]; exact HO.out
  obtain ⟨p1, p2⟩ := out_grown hv1.out hr1 HG.out hq (by simp [be4_len])
  exact ⟨rfl, p1, (OutTo.of (lb_alloc (Below.refl _ _) _)).trans p2⟩
theorem len_app4 (l : List Int) (n : Int) : (l ++ be4 n).length = l.length + 4 := by simp [be4_len]
theorem str_news (s : ByteArray) : Lib.strCells s = bNews (strB s) := by
  unfold Lib.strCells bNews strB
  rw [List.map_map]; rfl
theorem strB_size (s : ByteArray) : (strB s).length = s.size := by
  unfold strB
  rw [List.length_map, Array.length_toList]
  rfl

end Go.Proofs.YtfaekkbblpfbhaaDoor
