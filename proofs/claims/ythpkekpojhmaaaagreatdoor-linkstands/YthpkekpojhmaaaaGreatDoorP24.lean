/-
  The marks behind a list of objects stand. How a list of objects, copied with marks, lies. CopyObjects: a list of objects anew, each with memory of its own. CopyImage of the statements, by what it returns; the lists have at most 2^20 items.
-/
import Derived.Test.YthpkekpojhmaaaaGreatDoorProg
import Derived.WalkKit
import Derived.WalkSpells
import Derived.WalkLawsBesides
import Derived.RowKit3
import Derived.Below
import Derived.Deep.QuietTactic
import Derived.BigQuiet
import Derived.WalkSmall
import Derived.Laws.Rows
import Derived.Test.YthpkekpojhmaaaaGreatDoorP19
import Derived.Test.YthpkekpojhmaaaaGreatDoorP23
import Derived.Test.YthpkekpojhmaaaaGreatDoorP21
import Derived.Test.YthpkekpojhmaaaaGreatDoorP22
namespace Go.Proofs.YthpkekpojhmaaaaGreatDoor
open Go.RowKit

/-- The marks behind a list of objects. -/
def MarkO (w : World) (g n : Nat) : Prop := ∀ i, n ≤ i → i < n + 64 → w.cell? ⟨g, i * 6, none⟩ = some (.string ⟨#[]⟩) ∧ w.cell? ⟨g, i * 6 + 1, none⟩ = some (.slice none 0 0) ∧ w.cell? ⟨g, i * 6 + 2, none⟩ = some (.int .i64 (9437184 + i + 1)) ∧ w.cell? ⟨g, i * 6 + 3, none⟩ = some (.slice none 0 0) ∧ w.cell? ⟨g, i * 6 + 4, none⟩ = some (.slice none 0 0) ∧ w.cell? ⟨g, i * 6 + 5, none⟩ = some (.slice none 0 0)
theorem MarkO.keep {w w1 : World} {g n : Nat} (h : MarkO w g n) (hb : Below w.heap.size w w1) : MarkO w1 g n := fun i h0 h1 => by
  obtain ⟨x0, x1, x2, x3, x4, x5⟩ := h i h0 h1
  exact ⟨lkeep hb x0, lkeep hb x1, lkeep hb x2, lkeep hb x3, lkeep hb x4, lkeep hb x5⟩
/-- Where a copy with marks has its lists. -/
def wpl (o : Ob) (G : Nat × Nat × Nat × Nat) : Pl := ⟨some ⟨G.1, 0, none⟩, some ⟨G.2.1, 0, none⟩, some ⟨G.2.2.1, 0, none⟩, some ⟨G.2.2.2, 0, none⟩, o.code.length + 64, o.data.length + 64, o.ss.length + 64, o.rs.length + 64⟩
/-- The marks behind an object's lists. -/
def MarkE (w : World) (o : Ob) (G : Nat × Nat × Nat × Nat) : Prop := MarkI w .u32 G.1 o.code.length ∧ MarkI w .i64 G.2.1 o.data.length ∧ MarkS w G.2.2.1 o.ss.length ∧ MarkR w G.2.2.2 o.rs.length
theorem MarkE.keep {w w1 : World} {o : Ob} {G : Nat × Nat × Nat × Nat} (h : MarkE w o G) (hb : Below w.heap.size w w1) : MarkE w1 o G := ⟨h.1.keep hb, h.2.1.keep hb, h.2.2.1.keep hb, h.2.2.2.keep hb⟩
/-- A list copied with marks. -/
structure WideO (w : World) (g : Nat) (l : List Ob) (G : Nat → Nat × Nat × Nat × Nat) : Prop where
  inn : ObsIn w (some ⟨g, 0, none⟩) (fun i => wpl (ob l i) (G i)) l
  mo : MarkO w g l.length
  me : ∀ i, i < l.length → MarkE w (ob l i) (G i)
theorem WideO.keep {w w1 : World} {g : Nat} {l : List Ob} {G : Nat → Nat × Nat × Nat × Nat} (h : WideO w g l G) (hb : Below w.heap.size w w1) : WideO w1 g l G := ⟨h.inn.keep hb, h.mo.keep hb, fun i hi => (h.me i hi).keep hb⟩
set_option maxHeartbeats 4000000 in
set_option maxRecDepth 100000 in
theorem spareobs_any (g : Nat) (l : List Ob) (G : Nat → Nat × Nat × Nat × Nat) (w : World) (h : WideO w g l G) :
    Calls Tryz.prog 15 #[.slice (some ⟨g, 0, none⟩) l.length (l.length + 64)] w fun e w' => e = .returned (.bool true) ∧ Below w.heap.size w w' := by
  have HW : Hid (WideO w g l G) := h
  have hf := h.inn.few
  clear h
  go_enter Tryz.func15, Tryz.ntmps15
  go_wp2
  go_loopw [4] (fun i wr => ∃ k : Nat, i = .int .i64 k ∧ l.length ≤ k ∧ k ≤ l.length + 64 ∧ Below w.heap.size w wr) (fun i _ => l.length + 64 - (intOf i).toNat)
  case atStart => exact ⟨l.length, rfl, by omega, by omega, Below.refl _ _⟩
  case round =>
    obtain ⟨k, rfl, hk, hk2, hB⟩ := hrel
    by_cases hlt : k < l.length + 64
    · obtain ⟨c0, c1, c2, c3, c4, c5⟩ := HW.out.mo k hk hlt
      replace c0 := lkeep hB c0
      replace c1 := lkeep hB c1
      replace c2 := lkeep hB c2
      replace c3 := lkeep hB c3
      replace c4 := lkeep hB c4
      replace c5 := lkeep hB c5
      have HB : Hid (Below w.heap.size w _) := hB
      clear hB
      go_wp2_with fail
      go_quiet ((go_at_call 36; exact Calls.quiet_of_same (num_any _ _ (by omega) (by omega) (by omega) (by omega) _)))
      go_wp2
      go_roundw
      case rel => exact ⟨k + 1, by go_num, by omega, by omega, below_drewN (lb_alloc HB.out _) _⟩
      case measure => simp [intOf]; omega
    · have HB : Hid (Below w.heap.size w wr) := hB
      clear hB
      go_wp2
      go_loopw [6] (fun i wr => ∃ k : Nat, i = .int .i64 k ∧ k ≤ l.length ∧ Hid (Below w.heap.size w wr)) (fun i _ => l.length - (intOf i).toNat)
      case atStart => exact ⟨0, rfl, Nat.zero_le _, HB⟩
      case round =>
        clear HB
        obtain ⟨j, rfl, hj, HB⟩ := hrel
        by_cases hlt : j < l.length
        · obtain ⟨a, ea, x0, x1, x2, x3, x4, x5⟩ := HW.out.inn.cells.six HB.out j hlt
          have oA := (HW.out.inn.each j hlt).keep HB.out
          have mE := (HW.out.me j hlt).keep HB.out
          have CE := spareobj_any (ob l j).nm (ob l j).dA (G j).1 (ob l j).code.length (G j).2.1 (ob l j).data.length (G j).2.2.1 (ob l j).ss.length (G j).2.2.2 (ob l j).rs.length wr mE.1 mE.2.1 mE.2.2.1 mE.2.2.2 oA.hc oA.hd oA.hs oA.hl
          obtain rfl := Option.some.inj ea
          clear oA mE ea
          simp only [addz, wpl] at x0 x1 x2 x3 x4 x5
          go_wp2_with fail
          refine CE.mono ?_
          rintro e w1 ⟨rfl, hb1⟩
          have HB2 : Hid (Below w.heap.size w w1) := lb_trans HB.out hb1
          clear hb1 CE x0 x1 x2 x3 x4 x5
          go_wp2
          go_roundw
          case rel => exact ⟨j + 1, by go_num, by omega, HB2⟩
          case measure => simp [intOf]; omega
        · go_wp2
          go_ret
          exact ⟨rfl, HB.out⟩




end Go.Proofs.YthpkekpojhmaaaaGreatDoor

namespace Go.Proofs.YthpkekpojhmaaaaGreatDoor
open Go.RowKit

/-- The cells of a list copied with marks: the lists of the object at a place lie behind a block. -/
def wOb (l : List Ob) (s i : Nat) : Value := if i / 6 < l.length then (#[.string (ob l (i / 6)).nm, .slice (some ⟨s + 6 * (i / 6) + 2, 0, none⟩) (ob l (i / 6)).code.length ((ob l (i / 6)).code.length + 64), .int .i64 (ob l (i / 6)).dA, .slice (some ⟨s + 6 * (i / 6) + 3, 0, none⟩) (ob l (i / 6)).data.length ((ob l (i / 6)).data.length + 64), .slice (some ⟨s + 6 * (i / 6) + 4, 0, none⟩) (ob l (i / 6)).ss.length ((ob l (i / 6)).ss.length + 64), .slice (some ⟨s + 6 * (i / 6) + 5, 0, none⟩) (ob l (i / 6)).rs.length ((ob l (i / 6)).rs.length + 64)] : Array Value).getD (i % 6) (.int .i64 0) else (#[.string ⟨#[]⟩, .slice none 0 0, .int .i64 (9437184 + (i / 6 : Nat) + 1), .slice none 0 0, .slice none 0 0, .slice none 0 0] : Array Value).getD (i % 6) (.int .i64 0)
def zOb (i : Nat) : Value := (#[.string ⟨#[]⟩, .slice none 0 0, .int .i64 0, .slice none 0 0, .slice none 0 0, .slice none 0 0] : Array Value).getD (i % 6) (.int .i64 0)
theorem wOb_item0 (l : List Ob) (s k : Nat) (h : k < l.length) : wOb l s (k * 6) = .string (ob l k).nm := by
  have e : (k * 6) / 6 = k := by omega
  have m : (k * 6) % 6 = 0 := by omega
  simp [wOb, e, m, h]
theorem wOb_item1 (l : List Ob) (s k : Nat) (h : k < l.length) : wOb l s (k * 6 + 1) = .slice (some ⟨s + 6 * k + 2, 0, none⟩) (ob l k).code.length ((ob l k).code.length + 64) := by
  have e : (k * 6 + 1) / 6 = k := by omega
  have m : (k * 6 + 1) % 6 = 1 := by omega
  simp [wOb, e, m, h]
theorem wOb_item2 (l : List Ob) (s k : Nat) (h : k < l.length) : wOb l s (k * 6 + 2) = .int .i64 (ob l k).dA := by
  have e : (k * 6 + 2) / 6 = k := by omega
  have m : (k * 6 + 2) % 6 = 2 := by omega
  simp [wOb, e, m, h]
theorem wOb_item3 (l : List Ob) (s k : Nat) (h : k < l.length) : wOb l s (k * 6 + 3) = .slice (some ⟨s + 6 * k + 3, 0, none⟩) (ob l k).data.length ((ob l k).data.length + 64) := by
  have e : (k * 6 + 3) / 6 = k := by omega
  have m : (k * 6 + 3) % 6 = 3 := by omega
  simp [wOb, e, m, h]
theorem wOb_item4 (l : List Ob) (s k : Nat) (h : k < l.length) : wOb l s (k * 6 + 4) = .slice (some ⟨s + 6 * k + 4, 0, none⟩) (ob l k).ss.length ((ob l k).ss.length + 64) := by
  have e : (k * 6 + 4) / 6 = k := by omega
  have m : (k * 6 + 4) % 6 = 4 := by omega
  simp [wOb, e, m, h]
theorem wOb_item5 (l : List Ob) (s k : Nat) (h : k < l.length) : wOb l s (k * 6 + 5) = .slice (some ⟨s + 6 * k + 5, 0, none⟩) (ob l k).rs.length ((ob l k).rs.length + 64) := by
  have e : (k * 6 + 5) / 6 = k := by omega
  have m : (k * 6 + 5) % 6 = 5 := by omega
  simp [wOb, e, m, h]
theorem wOb_mark0 (l : List Ob) (s k : Nat) (h : ¬ k < l.length) : wOb l s (k * 6) = .string ⟨#[]⟩ := by
  have e : (k * 6) / 6 = k := by omega
  have m : (k * 6) % 6 = 0 := by omega
  simp [wOb, e, m, h]
theorem wOb_mark1 (l : List Ob) (s k : Nat) (h : ¬ k < l.length) : wOb l s (k * 6 + 1) = .slice none 0 0 := by
  have e : (k * 6 + 1) / 6 = k := by omega
  have m : (k * 6 + 1) % 6 = 1 := by omega
  simp [wOb, e, m, h]
theorem wOb_mark2 (l : List Ob) (s k : Nat) (h : ¬ k < l.length) : wOb l s (k * 6 + 2) = .int .i64 (9437184 + k + 1) := by
  have e : (k * 6 + 2) / 6 = k := by omega
  have m : (k * 6 + 2) % 6 = 2 := by omega
  simp [wOb, e, m, h]
theorem wOb_mark3 (l : List Ob) (s k : Nat) (h : ¬ k < l.length) : wOb l s (k * 6 + 3) = .slice none 0 0 := by
  have e : (k * 6 + 3) / 6 = k := by omega
  have m : (k * 6 + 3) % 6 = 3 := by omega
  simp [wOb, e, m, h]
theorem wOb_mark4 (l : List Ob) (s k : Nat) (h : ¬ k < l.length) : wOb l s (k * 6 + 4) = .slice none 0 0 := by
  have e : (k * 6 + 4) / 6 = k := by omega
  have m : (k * 6 + 4) % 6 = 4 := by omega
  simp [wOb, e, m, h]
theorem wOb_mark5 (l : List Ob) (s k : Nat) (h : ¬ k < l.length) : wOb l s (k * 6 + 5) = .slice none 0 0 := by
  have e : (k * 6 + 5) / 6 = k := by omega
  have m : (k * 6 + 5) % 6 = 5 := by omega
  simp [wOb, e, m, h]
theorem wcur_step {f z : Nat → Value} {N k : Nat} {v : Value} (hv : f k = v) (h : k < N) : (wcur f z N k).setIfInBounds k v = wcur f z N (k + 1) := by
  rw [← hv]
  exact wcur_set f z N k h
theorem ob_item (l : List Ob) (s k : Nat) (h : k < l.length) : ((((((wcur (wOb l s) zOb ((l.length + 64) * 6) (k * 6)).setIfInBounds (k * 6) (.string (ob l k).nm)).setIfInBounds (k * 6 + 1) (.slice (some ⟨s + 6 * k + 2, 0, none⟩) (ob l k).code.length ((ob l k).code.length + 64))).setIfInBounds (k * 6 + 2) (.int .i64 (ob l k).dA)).setIfInBounds (k * 6 + 3) (.slice (some ⟨s + 6 * k + 3, 0, none⟩) (ob l k).data.length ((ob l k).data.length + 64))).setIfInBounds (k * 6 + 4) (.slice (some ⟨s + 6 * k + 4, 0, none⟩) (ob l k).ss.length ((ob l k).ss.length + 64))).setIfInBounds (k * 6 + 5) (.slice (some ⟨s + 6 * k + 5, 0, none⟩) (ob l k).rs.length ((ob l k).rs.length + 64)) = wcur (wOb l s) zOb ((l.length + 64) * 6) ((k + 1) * 6) := by
  rw [wcur_step (wOb_item0 l s k h) (by omega), wcur_step (wOb_item1 l s k h) (by omega), wcur_step (wOb_item2 l s k h) (by omega), wcur_step (wOb_item3 l s k h) (by omega), wcur_step (wOb_item4 l s k h) (by omega), wcur_step (wOb_item5 l s k h) (by omega), show (k + 1) * 6 = k * 6 + 6 by omega]
theorem ob_mark (l : List Ob) (s k : Nat) (hk : k < l.length + 64) (h : ¬ k < l.length) : ((((((wcur (wOb l s) zOb ((l.length + 64) * 6) (k * 6)).setIfInBounds (k * 6) (.string ⟨#[]⟩)).setIfInBounds (k * 6 + 1) (.slice none 0 0)).setIfInBounds (k * 6 + 2) (.int .i64 (9437184 + k + 1))).setIfInBounds (k * 6 + 3) (.slice none 0 0)).setIfInBounds (k * 6 + 4) (.slice none 0 0)).setIfInBounds (k * 6 + 5) (.slice none 0 0) = wcur (wOb l s) zOb ((l.length + 64) * 6) ((k + 1) * 6) := by
  rw [wcur_step (wOb_mark0 l s k h) (by omega), wcur_step (wOb_mark1 l s k h) (by omega), wcur_step (wOb_mark2 l s k h) (by omega), wcur_step (wOb_mark3 l s k h) (by omega), wcur_step (wOb_mark4 l s k h) (by omega), wcur_step (wOb_mark5 l s k h) (by omega), show (k + 1) * 6 = k * 6 + 6 by omega]
theorem info65 : ∃ i, Tryz.prog.info? 75 = some i ∧ i.zero = some (.agg #[.string ⟨#[]⟩, .slice none 0 0, .int .i64 0, .slice none 0 0, .slice none 0 0, .slice none 0 0]) ∧ i.size = 6 ∧ i.bytes = 120 :=
  ⟨(Tryz.prog.info? 75).get (by kernel_rfl), by kernel_rfl, by kernel_rfl, by kernel_rfl, by kernel_rfl⟩
theorem made_ob (f : Nat → Value) (N : Nat) : madeCells #[.string ⟨#[]⟩, .slice none 0 0, .int .i64 0, .slice none 0 0, .slice none 0 0, .slice none 0 0] N = wcur f zOb N 0 := by
  apply Array.ext_getElem?
  intro i
  by_cases hi : i < N
  · rw [wcur_get _ _ _ _ _ hi]
    have h : i % 6 = 0 ∨ i % 6 = 1 ∨ i % 6 = 2 ∨ i % 6 = 3 ∨ i % 6 = 4 ∨ i % 6 = 5 := by omega
    rcases h with h | h | h | h | h | h <;> simp [madeCells, hi, h, zOb]
  · rw [Array.getElem?_eq_none (by simp [madeCells]; omega), Array.getElem?_eq_none (by simp [wcur_size]; omega)]
theorem make53 (f : Nat → Value) (n : Nat) (hn : n ≤ 1048576) (w : World) : (Instr.makeSlice 22 (.int .i64 ((n : Int) + 64)) (.int .i64 ((n : Int) + 64))).run Tryz.prog w = .ok (.slice (some ⟨w.heap.size, 0, none⟩) (n + 64) (n + 64)) (w.alloc (.cells (wcur f zOb ((n + 64) * 6) 0) 75)) := by
  obtain ⟨i, hi, hz, hs, hb⟩ := info65
  have h := run_makeSlice (P := Tryz.prog) w 22 75 i _ Tryz.underlying22 hi hz .i64 .i64 ((n : Int) + 64) ((n : Int) + 64) (by omega) (by omega) (by rw [hs]; omega) (by rw [hb]; omega) (by omega)
  rw [hs, show ((n : Int) + 64).toNat = n + 64 by omega] at h
  rw [h, ← made_ob f ((n + 64) * 6)]
  rfl
/-- The four blocks of an object's lists, behind a block. -/
def Blk (w : World) (o : Ob) (b : Nat) : Prop := w.heap[b + 2]? = some (.cells (wcur (wInt .u32 o.code) (fun _ => .int .u32 0) (o.code.length + 64) (o.code.length + 64)) 78 (0, 0)) ∧ w.heap[b + 3]? = some (.cells (wcur (wInt .i64 o.data) (fun _ => .int .i64 0) (o.data.length + 64) (o.data.length + 64)) 2 (0, 0)) ∧ w.heap[b + 4]? = some (.cells (wcur (wSym o.ss) zSym ((o.ss.length + 64) * 3) ((o.ss.length + 64) * 3)) 131 (0, 0)) ∧ w.heap[b + 5]? = some (.cells (wcur (wRel o.rs) (fun _ => .int .i64 0) ((o.rs.length + 64) * 2) ((o.rs.length + 64) * 2)) 83 (0, 0))
theorem blk_ints {w : World} {g : Nat} {K : IntKind} {z : Nat → Value} {zs : List Int} {t : TypeId} (h : w.heap[g]? = some (.cells (wcur (wInt K zs) z (zs.length + 64) (zs.length + 64)) t (0, 0))) : IntsAt w (some ⟨g, 0, none⟩) K zs := fun i hi =>
  ⟨_, rfl, by rw [addz, Lib.cell_of_heap h, wcur_full _ _ _ _ (by omega)]; simp [wInt, hi]⟩
theorem blk_marki {w : World} {g : Nat} {K : IntKind} {z : Nat → Value} {zs : List Int} {t : TypeId} (h : w.heap[g]? = some (.cells (wcur (wInt K zs) z (zs.length + 64) (zs.length + 64)) t (0, 0))) : MarkI w K g zs.length := fun i h1 h2 => by
  rw [Lib.cell_of_heap h, wcur_full _ _ _ _ h2]; simp [wInt, mark, show ¬ i < zs.length by omega]
theorem blk_syms {w : World} {g : Nat} {zs : List Sym} {t : TypeId} (h : w.heap[g]? = some (.cells (wcur (wSym zs) zSym ((zs.length + 64) * 3) ((zs.length + 64) * 3)) t (0, 0))) : SymsAt w (some ⟨g, 0, none⟩) zs := fun i hi =>
  ⟨_, rfl, by rw [addz, Lib.cell_of_heap h, wcur_full _ _ _ _ (by omega), wSym_item0 zs i hi], by rw [addz2 _ _ _ (by omega), Lib.cell_of_heap h, wcur_full _ _ _ _ (by omega), wSym_item1 zs i hi], by rw [addz2 _ _ _ (by omega), Lib.cell_of_heap h, wcur_full _ _ _ _ (by omega), wSym_item2 zs i hi]⟩
theorem blk_marks {w : World} {g : Nat} {zs : List Sym} {t : TypeId} (h : w.heap[g]? = some (.cells (wcur (wSym zs) zSym ((zs.length + 64) * 3) ((zs.length + 64) * 3)) t (0, 0))) : MarkS w g zs.length := fun i h1 h2 =>
  ⟨by rw [Lib.cell_of_heap h, wcur_full _ _ _ _ (by omega), wSym_mark0 zs i (by omega)], by rw [Lib.cell_of_heap h, wcur_full _ _ _ _ (by omega), wSym_mark1 zs i (by omega)], by rw [Lib.cell_of_heap h, wcur_full _ _ _ _ (by omega), wSym_mark2 zs i (by omega)]⟩
theorem blk_rels {w : World} {g : Nat} {z : Nat → Value} {zs : List Rel} {t : TypeId} (h : w.heap[g]? = some (.cells (wcur (wRel zs) z ((zs.length + 64) * 2) ((zs.length + 64) * 2)) t (0, 0))) : RelsAt w (some ⟨g, 0, none⟩) zs := fun i hi =>
  ⟨_, rfl, by rw [addz, Lib.cell_of_heap h, wcur_full _ _ _ _ (by omega), wRel_item0 zs i hi], by rw [addz2 _ _ _ (by omega), Lib.cell_of_heap h, wcur_full _ _ _ _ (by omega), wRel_item1 zs i hi]⟩
theorem blk_markr {w : World} {g : Nat} {z : Nat → Value} {zs : List Rel} {t : TypeId} (h : w.heap[g]? = some (.cells (wcur (wRel zs) z ((zs.length + 64) * 2) ((zs.length + 64) * 2)) t (0, 0))) : MarkR w g zs.length := fun i h1 h2 =>
  ⟨by rw [Lib.cell_of_heap h, wcur_full _ _ _ _ (by omega), wRel_mark0 zs i (by omega)], by rw [Lib.cell_of_heap h, wcur_full _ _ _ _ (by omega), wRel_mark1 zs i (by omega)]⟩
def GO (s i : Nat) : Nat × Nat × Nat × Nat := (s + 6 * i + 2, s + 6 * i + 3, s + 6 * i + 4, s + 6 * i + 5)
theorem Blk.marks {w : World} {o : Ob} {s i : Nat} (h : Blk w o (s + 6 * i)) : MarkE w o (GO s i) := ⟨blk_marki h.1, blk_marki h.2.1, blk_marks h.2.2.1, blk_markr h.2.2.2⟩
theorem Blk.inn {w w0 : World} {o : Ob} {p : Pl} {s i : Nat} (h : Blk w o (s + 6 * i)) (h0 : ObIn w0 p o) : ObIn w (wpl o (GO s i)) o :=
  ⟨blk_ints h.1, blk_ints h.2.1, blk_syms h.2.2.1, blk_rels h.2.2.2, h0.cr, h0.dr, h0.da, h0.hc, h0.hd, h0.hs, h0.hl, h0.hN, Nat.le_add_right _ _⟩
theorem Blk.keep {w w1 : World} {o : Ob} {b : Nat} (h : Blk w o b) (hk : ∀ i, b + 2 ≤ i → i < b + 6 → w1.heap[i]? = w.heap[i]?) : Blk w1 o b :=
  ⟨(hk _ (by omega) (by omega)).trans h.1, (hk _ (by omega) (by omega)).trans h.2.1, (hk _ (by omega) (by omega)).trans h.2.2.1, (hk _ (by omega) (by omega)).trans h.2.2.2⟩
theorem row_obs {w : World} {g s : Nat} {l : List Ob} (h : w.heap[g]? = some (.cells (wcur (wOb l s) zOb ((l.length + 64) * 6) ((l.length + 64) * 6)) 75 (0, 0))) : ObsAt w (some ⟨g, 0, none⟩) (fun i => wpl (ob l i) (GO s i)) l := fun i hi =>
  ⟨_, rfl, by rw [addz, Lib.cell_of_heap h, wcur_full _ _ _ _ (by omega), wOb_item0 l s i hi], by rw [addz2 _ _ _ (by omega), Lib.cell_of_heap h, wcur_full _ _ _ _ (by omega), wOb_item1 l s i hi]; rfl, by rw [addz2 _ _ _ (by omega), Lib.cell_of_heap h, wcur_full _ _ _ _ (by omega), wOb_item2 l s i hi], by rw [addz2 _ _ _ (by omega), Lib.cell_of_heap h, wcur_full _ _ _ _ (by omega), wOb_item3 l s i hi]; rfl, by rw [addz2 _ _ _ (by omega), Lib.cell_of_heap h, wcur_full _ _ _ _ (by omega), wOb_item4 l s i hi]; rfl, by rw [addz2 _ _ _ (by omega), Lib.cell_of_heap h, wcur_full _ _ _ _ (by omega), wOb_item5 l s i hi]; rfl⟩
theorem row_marks {w : World} {g s : Nat} {l : List Ob} (h : w.heap[g]? = some (.cells (wcur (wOb l s) zOb ((l.length + 64) * 6) ((l.length + 64) * 6)) 75 (0, 0))) : MarkO w g l.length := fun i h1 h2 =>
  ⟨by rw [Lib.cell_of_heap h, wcur_full _ _ _ _ (by omega), wOb_mark0 l s i (by omega)], by rw [Lib.cell_of_heap h, wcur_full _ _ _ _ (by omega), wOb_mark1 l s i (by omega)], by rw [Lib.cell_of_heap h, wcur_full _ _ _ _ (by omega), wOb_mark2 l s i (by omega)], by rw [Lib.cell_of_heap h, wcur_full _ _ _ _ (by omega), wOb_mark3 l s i (by omega)], by rw [Lib.cell_of_heap h, wcur_full _ _ _ _ (by omega), wOb_mark4 l s i (by omega)], by rw [Lib.cell_of_heap h, wcur_full _ _ _ _ (by omega), wOb_mark5 l s i (by omega)]⟩
theorem set_off {w : World} {g k i : Nat} (u : Value) (hi : ¬ g = i) : (w.setCell ⟨g, k, none⟩ u).heap[i]? = w.heap[i]? := by
  simp [World.setCell, Array.getElem?_modify, hi]




end Go.Proofs.YthpkekpojhmaaaaGreatDoor

namespace Go.Proofs.YthpkekpojhmaaaaGreatDoor
open Go.RowKit

/-- An object's lists are memory of their own. -/
structure OwnO (w : World) (base : Nat) (p : Pl) (o : Ob) : Prop where
  r1 : w.ownsRow base 78 1 (.slice p.A1 o.code.length p.c1) o.code.length (iNews .u32 o.code)
  r2 : w.ownsRow base 2 1 (.slice p.A2 o.data.length p.c2) o.data.length (iNews .i64 o.data)
  r3 : w.ownsRow base 131 3 (.slice p.A3 o.ss.length p.c3) o.ss.length (sNews o.ss)
  r4 : w.ownsRow base 83 2 (.slice p.A4 o.rs.length p.c4) o.rs.length (rNews o.rs)
theorem OwnO.keep {w w1 : World} {base : Nat} {p : Pl} {o : Ob} (h : OwnO w base p o) (hb : Below w.heap.size w w1) : OwnO w1 base p o := ⟨own_keep h.r1 hb, own_keep h.r2 hb, own_keep h.r3 hb, own_keep h.r4 hb⟩
theorem OwnO.base {w : World} {b c : Nat} {p : Pl} {o : Ob} (h : OwnO w b p o) (hc : c ≤ b) : OwnO w c p o := ⟨own_base h.r1 hc, own_base h.r2 hc, own_base h.r3 hc, own_base h.r4 hc⟩
theorem OwnO.other {w w1 : World} {base b n : Nat} {p : Pl} {o : Ob} {V : Value} {xs : List Value} (h : OwnO w base p o) (hV : w.ownsRow b 75 6 V n xs) (hg : w.grownBy w1 V.ownBlock) : OwnO w1 base p o :=
  ⟨own_other h.r1 hg (own_not hV (by decide)), own_other h.r2 hg (own_not hV (by decide)), own_other h.r3 hg (own_not hV (by decide)), own_other h.r4 hg (own_not hV (by decide))⟩
theorem OwnO.inn {w w0 : World} {base : Nat} {p p0 : Pl} {o : Ob} (h : OwnO w base p o) (h0 : ObIn w0 p0 o) : ObIn w p o := by
  obtain ⟨_, c, e4, h4⟩ := own_any h.r4
  refine ⟨nrow_ints h.r1, nrow_ints h.r2, nrow_syms h.r3, nrow_rels h.r4, h0.cr, h0.dr, h0.da, h0.hc, h0.hd, h0.hs, h0.hl, h0.hN, ?_⟩
  cases e4
  exact h4
/-- The cells of a list of objects. -/
def obc (o : Ob) (p : Pl) : List Value := [.string o.nm, .slice p.A1 o.code.length p.c1, .int .i64 o.dA, .slice p.A2 o.data.length p.c2, .slice p.A3 o.ss.length p.c3, .slice p.A4 o.rs.length p.c4]
def oN (l : List Ob) (q : Nat → Pl) (k : Nat) : List Value := marks (fun _ i => obc (ob l i) (q i)) 0 k
def updP (q : Nat → Pl) (k : Nat) (p : Pl) (i : Nat) : Pl := if i = k then p else q i
theorem oN_same {l : List Ob} {q r : Nat → Pl} : ∀ {k : Nat}, (∀ i, i < k → q i = r i) → oN l q k = oN l r k
  | 0, _ => rfl
  | k + 1, h => by
    unfold oN
    rw [marks_succ, marks_succ]
    have := oN_same (l := l) (k := k) (fun i hi => h i (by omega))
    unfold oN at this
    rw [this, h k (by omega)]
theorem oN_succ (l : List Ob) (q : Nat → Pl) (k : Nat) (p : Pl) : oN l (updP q k p) (k + 1) = oN l q k ++ obc (ob l k) p := by
  have : oN l (updP q k p) k = oN l q k := oN_same (fun i hi => by unfold updP; rw [if_neg (by omega)])
  unfold oN at this ⊢
  rw [marks_succ, this]
  unfold updP
  rw [if_pos rfl]
theorem oN_at {w : World} {base c : Nat} {A : Option Addr} {l : List Ob} {q : Nat → Pl} (h : w.ownsRow base 75 6 (.slice A l.length c) l.length (oN l q l.length)) : ObsAt w A q l := fun i hi => by
  rcases h.2 with ⟨_, h0⟩ | ⟨g, cap, cur, e, _⟩
  · omega
  · cases e
    have g := fun j (hj : j < 6) => marks_get (mk := fun _ i => obc (ob l i) (q i)) (size := 6) (fun _ _ => rfl) 0 hi hj
    refine ⟨_, rfl, h.cells rfl _ _ (g 0 (by omega)), ?_, ?_, ?_, ?_, ?_⟩
    · rw [Deep.add_add]; exact h.cells rfl _ _ (g 1 (by omega))
    · rw [Deep.add_add]; exact h.cells rfl _ _ (g 2 (by omega))
    · rw [Deep.add_add]; exact h.cells rfl _ _ (g 3 (by omega))
    · rw [Deep.add_add]; exact h.cells rfl _ _ (g 4 (by omega))
    · rw [Deep.add_add]; exact h.cells rfl _ _ (g 5 (by omega))
theorem own_step {w w1 : World} {base b n k : Nat} {l : List Ob} {r : Nat → Pl} {p : Pl} {V : Value} {xs : List Value} (hV : w.ownsRow b 75 6 V n xs) (ho : ∀ i, i < k → OwnO w base (r i) (ob l i)) (hp : OwnO w base p (ob l k)) (hg : w.grownBy w1 V.ownBlock) : ∀ i, i < k + 1 → OwnO w1 base (updP r k p i) (ob l i) := fun i hi => by
  unfold updP
  by_cases he : i = k
  · rw [if_pos he, he]
    exact hp.other hV hg
  · rw [if_neg he]
    exact (ho i (by omega)).other hV hg
/-- How CopyObjects ends. -/
def CopyL (l : List Ob) (w : World) (e : Ending) (w' : World) : Prop := ∃ (A : Option Addr) (c : Nat) (q : Nat → Pl), e = .returned (.slice A l.length c) ∧ w'.ownsRow w.heap.size 75 6 (.slice A l.length c) l.length (oN l q l.length) ∧ (∀ i, i < l.length → OwnO w' w.heap.size (q i) (ob l i)) ∧ Below w.heap.size w w'
theorem one_six {o : Ob} {p : Pl} : ∀ u ∈ obc o p, u.oneCell' = true := fun u hu => by
  simp only [obc, List.mem_cons, List.not_mem_nil, or_false] at hu
  rcases hu with rfl | rfl | rfl | rfl | rfl | rfl <;> rfl
set_option maxHeartbeats 4000000 in
set_option maxRecDepth 100000 in
theorem copyobs_any (A : Option Addr) (ca : Nat) (q : Nat → Pl) (l : List Ob) (w : World) (hA : ObsIn w A q l) (h0 : ∀ i, i < l.length → NoneO (q i)) :
    Calls Tryz.prog 19 #[.slice A l.length ca] w (CopyL l w) := by
  obtain ⟨i0, hi, hz0, hz1, hz2⟩ := info65
  have HA : Hid (ObsIn w A q l) := hA
  have H0 : Hid (∀ i, i < l.length → NoneO (q i)) := h0
  have hf := hA.few
  clear hA h0
  go_enter Tryz.func19, Tryz.ntmps19
  go_wp2
  go_loopw [4, 3] (fun i t wr => ∃ (k : Nat) (O : Option Addr) (c : Nat) (r : Nat → Pl), i = .int .i64 k ∧ t = .slice O k c ∧ k ≤ l.length ∧ Hid (wr.ownsRow w.heap.size 75 6 t k (oN l r k)) ∧ Hid (∀ i, i < k → OwnO wr w.heap.size (r i) (ob l i)) ∧ Hid (Below w.heap.size w wr)) (fun i _ _ => l.length - (intOf i).toNat)
  case atStart => exact ⟨0, none, 0, q, rfl, rfl, Nat.zero_le _, World.ownsRow_nil _ _ _ _, fun i hi => absurd hi (Nat.not_lt_zero _), Below.refl _ _⟩
  case round =>
    obtain ⟨k, O, c, r, rfl, rfl, hk, HR, HO, HB⟩ := hrel
    by_cases hkl : k < l.length
    · have hkl' : (k : Int) < (l.length : Int) := by omega
      obtain ⟨a, ea, x0, x1, x2, x3, x4, x5⟩ := HA.out.cells.six HB.out k hkl
      have h := (HA.out.each k hkl).keep HB.out
      have n0 := H0.out k hkl
      have CC := copyobj_any (ob l k).nm (ob l k).dA (q k).A1 (q k).A2 (q k).A3 (q k).A4 (q k).c1 (q k).c2 (q k).c3 (q k).c4 (ob l k).code (ob l k).data (ob l k).ss (ob l k).rs wr h.cd h.dt h.sy h.rl n0.1 n0.2.1 n0.2.2.1 n0.2.2.2 h.hc h.hd h.hs h.hl
      clear h n0
      subst ea
      go_wp2_with fail
      refine CC.mono ?_
      rintro e w1 ⟨O1, O2, O3, O4, k1, k2, k3, k4, rfl, hb1, r1, r2, r3, r4⟩
      obtain ⟨p, hp⟩ : ∃ p : Pl, p = ⟨O1, O2, O3, O4, k1, k2, k3, k4⟩ := ⟨_, rfl⟩
      have HP : Hid (OwnO w1 wr.heap.size p (ob l k)) := by rw [hp]; exact ⟨r1, r2, r3, r4⟩
      have eO1 : O1 = p.A1 := by rw [hp]
      have eO2 : O2 = p.A2 := by rw [hp]
      have eO3 : O3 = p.A3 := by rw [hp]
      have eO4 : O4 = p.A4 := by rw [hp]
      have ek1 : k1 = p.c1 := by rw [hp]
      have ek2 : k2 = p.c2 := by rw [hp]
      have ek3 : k3 = p.c3 := by rw [hp]
      have ek4 : k4 = p.c4 := by rw [hp]
      clear r1 r2 r3 r4
      rw [eO1, eO2, eO3, eO4, ek1, ek2, ek3, ek4]
      clear eO1 eO2 eO3 eO4 ek1 ek2 ek3 ek4 hp
      obtain ⟨W, hW⟩ : ∃ W, W = w1.alloc (.cells #[.string (ob l k).nm, .slice p.A1 (ob l k).code.length p.c1, .int .i64 (ob l k).dA, .slice p.A2 (ob l k).data.length p.c2, .slice p.A3 (ob l k).ss.length p.c3, .slice p.A4 (ob l k).rs.length p.c4] 75) := ⟨_, rfl⟩
      have hbW : Below wr.heap.size wr W := by rw [hW]; exact lb_alloc hb1 _
      have HBW : Hid (Below w.heap.size w W) := lb_trans HB.out hbW
      have HRW : Hid (W.ownsRow w.heap.size 75 6 (.slice O k c) k (oN l r k)) := own_keep HR.out hbW
      have HOW : Hid (∀ i, i < k → OwnO W w.heap.size (r i) (ob l i)) := fun i hi => (HO.out i hi).keep hbW
      have HPW : Hid (OwnO W w.heap.size p (ob l k)) := by rw [hW]; exact (HP.out.keep (lb_alloc (Below.refl _ _) _)).base HB.out.size
      have HN : Hid (W.heap[w1.heap.size]? = some (.cells #[.string (ob l k).nm, .slice p.A1 (ob l k).code.length p.c1, .int .i64 (ob l k).dA, .slice p.A2 (ob l k).data.length p.c2, .slice p.A3 (ob l k).ss.length p.c3, .slice p.A4 (ob l k).rs.length p.c4] 75 (0, 0))) := by rw [hW]; exact heap_alloc_new _ _
      rw [hW] at HBW HRW HOW HPW HN
      clear CC hb1 x0 x1 x2 x3 x4 x5 HR HO HP hbW
      go_wp2_with (at_builtin; go_loud (refine wpList_append_own _ rfl (.tmp 11) (.tmp 17) 22 rfl w.heap.size 75 i0 (.agg #[.string ⟨#[]⟩, .slice none 0 0, .int .i64 0, .slice none 0 0, .slice none 0 0, .slice none 0 0]) 6 120 Tryz.underlying22 hi hz0 hz1 hz2 rfl (by decide) (.slice O k c) k (oN l r k) rfl HRW.out ⟨w1.heap.size, 0, none⟩ 1 1 (obc (ob l k) p) rfl rfl (fun j u hu => World.news_of_block HN.out j u hu) one_six (by unfold maxLen; omega) (by omega) HBW.out.size ?_; intro v3 w3 hown hgrow _; have HR3 : Hid (w3.ownsRow w.heap.size 75 6 v3 (k + 1) (oN l (updP r k p) (k + 1))) := (by rw [oN_succ]; exact hown); have HB3 : Hid (Below w.heap.size w w3) := HBW.out.grown hgrow HBW.out.size (fun b hb => (HRW.out.lt b hb).1); have HO3 : Hid (∀ i, i < k + 1 → OwnO w3 w.heap.size (updP r k p i) (ob l i)) := own_step HRW.out HOW.out HPW.out hgrow; clear hown hgrow))
      obtain ⟨A5, c5, e5, -⟩ := own_any HR3.out
      subst e5
      go_roundw
      case rel => exact ⟨k + 1, _, _, _, by go_num, rfl, by omega, HR3, HO3, HB3⟩
      case measure => simp [intOf]; omega
    · have hkl' : ¬ (k : Int) < (l.length : Int) := by omega
      obtain rfl : k = l.length := by omega
      go_wp2
      go_ret
      exact ⟨O, c, r, rfl, HR.out, HO.out, HB.out⟩



end Go.Proofs.YthpkekpojhmaaaaGreatDoor

namespace Go.Proofs.YthpkekpojhmaaaaGreatDoor
open Go.RowKit

theorem old_at {w : World} {o o' : Obj} {n : Nat} (h : w.heap[n]? = some o) : (w.alloc o').heap[n]? = some o := by
  rw [Below.heap_alloc w o' n (Array.getElem?_eq_some_iff.1 h).1]; exact h
theorem new_at {w : World} {o : Obj} {n : Nat} (h : n = w.heap.size) : (w.alloc o).heap[n]? = some o := by subst h; exact heap_alloc_new w o
theorem box_other {w : World} {B P : Nat} {o : Obj} (h : w.heap[B]? = some o) (hB : B ≠ P) (i : Nat) (v : Value) : (w.setCell ⟨P, i, none⟩ v).heap[B]? = some o := (Below.heap_setCell _ _ _ _ hB).trans h
theorem zNews_vals (K : IntKind) (zs : List Int) : iNews K zs = ziVals K zs := by
  apply List.ext_getElem?
  intro i
  unfold iNews ziVals
  by_cases h : i < zs.length
  · simp [h, wInt, nth, List.getD]
  · simp [h]


/-- What CopyImage answers. -/
def CopyI (text mem : List Int) (ent : Int) (w : World) (e : Ending) (w' : World) : Prop := ∃ (A1 A2 : Option Addr) (k1 k2 : Nat), e = .returned (.agg #[.slice A1 text.length k1, .int .i64 ent, .slice A2 mem.length k2]) ∧ RowsI w' w.heap.size A1 A2 k1 k2 text mem ∧ Below w.heap.size w w'
set_option maxRecDepth 100000 in
theorem copyimg_any (A1 A2 : Option Addr) (c1 c2 : Nat) (text mem : List Int) (ent : Int) (w : World) (hT : IntsAt w A1 .u32 text) (hM : IntsAt w A2 .i64 mem) (h01 : A1 = none → c1 = 0) (h02 : A2 = none → c2 = 0) (hl : text.length ≤ 1048576) (hm : mem.length ≤ 1048576) :
    Calls Tryz.prog 21 #[.agg #[.slice A1 text.length c1, .int .i64 ent, .slice A2 mem.length c2]] w (CopyI text mem ent w) := by
  have hB0 : Below w.heap.size w ((w.alloc (.cells #[.slice A1 text.length c1, .int .i64 ent, .slice A2 mem.length c2] 29)).alloc (.cells #[.slice none 0 0, .int .i64 0, .slice none 0 0] 29)) := lb_alloc (lb_alloc (Below.refl _ _) _) _
  have HX0 : Hid (((w.alloc (.cells #[.slice A1 text.length c1, .int .i64 ent, .slice A2 mem.length c2] 29)).alloc (.cells #[.slice none 0 0, .int .i64 0, .slice none 0 0] 29)).heap[w.heap.size]? = some (.cells #[.slice A1 text.length c1, .int .i64 ent, .slice A2 mem.length c2] 29 (0, 0))) := old_at (new_at rfl)
  have HY0 : Hid (((w.alloc (.cells #[.slice A1 text.length c1, .int .i64 ent, .slice A2 mem.length c2] 29)).alloc (.cells #[.slice none 0 0, .int .i64 0, .slice none 0 0] 29)).heap[w.heap.size + 1]? = some (.cells #[.slice none 0 0, .int .i64 0, .slice none 0 0] 29 (0, 0))) := new_at (by simp)
  have HB0 : Hid _ := hB0
  clear hB0
  go_enter Tryz.func21, Tryz.ntmps21
  go_wp2_with fail
  refine (copywords_any A1 c1 text _ (hT.keep HB0.out) h01 hl).mono ?_
  rintro e w1 ⟨O1, k1, rfl, hown, hg, hn⟩
  have hb : Below _ _ w1 := ⟨hg.os, hg.tape, hg.output, hg.size, fun k hk => hg.block k hk (by simp)⟩
  have HX1 : Hid _ := lb_box HX0.out hb
  have HY1 : Hid _ := lb_box HY0.out hb
  have HB1 : Hid (Below w.heap.size w w1) := lb_trans HB0.out hb
  rw [zNews_vals] at hown
  have HO1 : Hid (w1.ownsRow (w.heap.size + 2) 78 1 (.slice O1 text.length k1) text.length (ziVals .u32 text)) := zownsRow_mono hown (by simp)
  have hs1 : w.heap.size + 2 ≤ w1.heap.size := by have := hb.size; simp at this; exact this
  have HS1 : Hid _ := hs1
  obtain ⟨x0, x1, x2⟩ := zbox3_cell HX1.out
  have f0 := zbox_fro HX1.out 0
  have HX2 : Hid _ := zbox_set HX1.out 0 (.slice O1 text.length k1)
  have HY2 : Hid _ := box_other HY1.out (show w.heap.size + 1 ≠ w.heap.size by omega) 0 (.slice O1 text.length k1)
  have HB2 : Hid (Below w.heap.size w (w1.setCell ⟨w.heap.size, 0, none⟩ (.slice O1 text.length k1))) := HB1.out.setCell (Nat.le_refl _) _
  have HO2 : Hid _ := row_setB HO1.out (show w.heap.size < w.heap.size + 2 by omega) 0 (.slice O1 text.length k1)
  clear hown hg hn hb hs1 HX0 HY0
  go_wp2_with fail
  refine (copylongs_any A2 c2 mem _ (hM.keep HB2.out) h02 hm).mono ?_
  rintro e w3 ⟨O2, k2, rfl, hown, hg, hn⟩
  have hb : Below _ _ w3 := ⟨hg.os, hg.tape, hg.output, hg.size, fun k hk => hg.block k hk (by simp)⟩
  have HX3 : Hid (w3.heap[w.heap.size]? = some (.cells #[.slice O1 text.length k1, .int .i64 ent, .slice A2 mem.length c2] 29 (0, 0))) := lb_box HX2.out hb
  have HY3 : Hid _ := lb_box HY2.out hb
  have HB3 : Hid (Below w.heap.size w w3) := lb_trans HB2.out hb
  rw [zNews_vals] at hown
  have HQ3 : Hid (RowsI w3 (w.heap.size + 2) O1 O2 k1 k2 text mem) := ⟨zrow_keep HO2.out hb, zownsRow_mono hown (by have := HS1.out; simpa using this)⟩
  clear hown hg hn hb x0 x1 x2 f0 HX1 HY1 HB1 HO1
  obtain ⟨x0, x1, x2⟩ := zbox3_cell HX3.out
  obtain ⟨y0, y1, y2⟩ := zbox3_cell HY3.out
  have f0 := zbox_fro HX3.out 0
  have f2 := zbox_fro HX3.out 2
  have g0 := zbox_fro HY3.out 0
  have g1 := zbox_fro HY3.out 1
  have g2 := zbox_fro HY3.out 2
  go_wp2
  refine bodyPost_ret (v := .agg #[.slice O1 text.length k1, .int .i64 ent, .slice O2 mem.length k2]) (by simp [results, Tryz.results21, go_sem, y0, y1, y2]) rfl ⟨O1, O2, k1, k2, rfl, ?_, ?_⟩
  · have h1 : w.heap.size < w.heap.size + 2 := by omega
    have h2 : w.heap.size + 1 < w.heap.size + 2 := by omega
    exact ((((HQ3.out.set h1 2 _).set h2 0 _).set h2 1 _).set h2 2 _).mono (by omega)
  · exact (((HB3.out.setCell (Nat.le_refl _) _).setCell (Nat.le_succ _) _).setCell (Nat.le_succ _) _).setCell (Nat.le_succ _) _


end Go.Proofs.YthpkekpojhmaaaaGreatDoor
