/-
  The marks behind a list of objects stand. How a list of objects, copied with marks, lies.
-/
import Derived.Test.YtbckolkgncajfaaGreatDoorProg
import Derived.WalkKit
import Derived.WalkSpells
import Derived.WalkLawsBesides
import Derived.RowKit3
import Derived.Below
import Derived.Deep.QuietTactic
import Derived.BigQuiet
import Derived.WalkSmall
import Derived.Laws.Rows
import Derived.Test.YtbckolkgncajfaaGreatDoorLo37
import Derived.Test.YtbckolkgncajfaaGreatDoorLo40
import Derived.Test.YtbckolkgncajfaaGreatDoorLo41
namespace Go.Proofs.YtbckolkgncajfaaGreatDoor
open Go.RowKit

/-- The marks behind a list of objects. -/
def MarkO (w : World) (g n : Nat) : Prop := ∀ i, n ≤ i → i < n + 64 → w.cell? ⟨g, i * 6, none⟩ = some (.string ⟨#[]⟩) ∧ w.cell? ⟨g, i * 6 + 1, none⟩ = some (.slice none 0 0) ∧ w.cell? ⟨g, i * 6 + 2, none⟩ = some (.int .i64 (9437184 + i + 1)) ∧ w.cell? ⟨g, i * 6 + 3, none⟩ = some (.slice none 0 0) ∧ w.cell? ⟨g, i * 6 + 4, none⟩ = some (.slice none 0 0) ∧ w.cell? ⟨g, i * 6 + 5, none⟩ = some (.slice none 0 0)
theorem MarkO.keep {w w1 : World} {g n : Nat} (h : MarkO w g n) (hb : Below w.heap.size w w1) : MarkO w1 g n := fun i h0 h1 => by
  obtain ⟨x0, x1, x2, x3, x4, x5⟩ := h i h0 h1
  exact ⟨lkeep hb x0, lkeep hb x1, lkeep hb x2, lkeep hb x3, lkeep hb x4, lkeep hb x5⟩
/-- Where a copy with marks has its lists. -/
def wpl (o : Ob) (G : Nat × Nat × Nat × Nat) : Pl := ⟨some ⟨G.1, 0, none⟩, some ⟨G.2.1, 0, none⟩, some ⟨G.2.2.1, 0, none⟩, some ⟨G.2.2.2, 0, none⟩, o.code.length + 64, o.data.length + 64, o.ss.length + 64, o.rs.length + 64⟩
/-- The marks behind an object's lists. -/
def MarkE (w : World) (o : Ob) (G : Nat × Nat × Nat × Nat) : Prop := MarkI w .u32 G.1 o.code.length ∧ MarkI w .i64 G.2.1 o.data.length ∧ MarkS w G.2.2.1 o.ss.length ∧ MarkR w G.2.2.2 o.rs.length
theorem MarkE.keep {w w1 : World} {o : Ob} {G : Nat × Nat × Nat × Nat} (h : MarkE w o G) (hb : Below w.heap.size w w1) : MarkE w1 o G := ⟨h.1.keep hb, h.2.1.keep hb, h.2.2.1.keep hb, h.2.2.2.keep hb⟩
/-- A list copied with marks. -/
structure WideO (w : World) (g : Nat) (l : List Ob) (G : Nat → Nat × Nat × Nat × Nat) : Prop where
  inn : ObsIn w (some ⟨g, 0, none⟩) (fun i => wpl (ob l i) (G i)) l
  mo : MarkO w g l.length
  me : ∀ i, i < l.length → MarkE w (ob l i) (G i)
theorem WideO.keep {w w1 : World} {g : Nat} {l : List Ob} {G : Nat → Nat × Nat × Nat × Nat} (h : WideO w g l G) (hb : Below w.heap.size w w1) : WideO w1 g l G := ⟨h.inn.keep hb, h.mo.keep hb, fun i hi => (h.me i hi).keep hb⟩
set_option maxHeartbeats 4000000 in
set_option maxRecDepth 100000 in
theorem spareobs_any (g : Nat) (l : List Ob) (G : Nat → Nat × Nat × Nat × Nat) (w : World) (h : WideO w g l G) :
    Calls Tryz.prog 20 #[.slice (some ⟨g, 0, none⟩) l.length (l.length + 64)] w fun e w' => e = .returned (.bool true) ∧ Below w.heap.size w w' := by
  have HW : Hid (WideO w g l G) := h
  have hf := h.inn.few
  clear h
  go_enter Tryz.func20, Tryz.ntmps20
  go_wp2
  go_loopw [4] (fun i wr => ∃ k : Nat, i = .int .i64 k ∧ l.length ≤ k ∧ k ≤ l.length + 64 ∧ Below w.heap.size w wr) (fun i _ => l.length + 64 - (intOf i).toNat)
  case atStart => exact ⟨l.length, rfl, by omega, by omega, Below.refl _ _⟩
  case round =>
    obtain ⟨k, rfl, hk, hk2, hB⟩ := hrel
    by_cases hlt : k < l.length + 64
    · obtain ⟨c0, c1, c2, c3, c4, c5⟩ := HW.out.mo k hk hlt
      replace c0 := lkeep hB c0
      replace c1 := lkeep hB c1
      replace c2 := lkeep hB c2
      replace c3 := lkeep hB c3
      replace c4 := lkeep hB c4
      replace c5 := lkeep hB c5
      have HB : Hid (Below w.heap.size w _) := hB
      clear hB
      go_wp2_with fail
      go_quiet ((go_at_call 24; exact Calls.quiet_of_same (num_any _ _ (by omega) (by omega) (by omega) (by omega) _)))
      go_wp2
      go_roundw
      case rel => exact ⟨k + 1, by go_num, by omega, by omega, below_drewN (lb_alloc HB.out _) _⟩
      case measure => simp [intOf]; omega
    · have HB : Hid (Below w.heap.size w wr) := hB
      clear hB
      go_wp2
      go_loopw [6] (fun i wr => ∃ k : Nat, i = .int .i64 k ∧ k ≤ l.length ∧ Hid (Below w.heap.size w wr)) (fun i _ => l.length - (intOf i).toNat)
      case atStart => exact ⟨0, rfl, Nat.zero_le _, HB⟩
      case round =>
        clear HB
        obtain ⟨j, rfl, hj, HB⟩ := hrel
        by_cases hlt : j < l.length
        · obtain ⟨a, ea, x0, x1, x2, x3, x4, x5⟩ := HW.out.inn.cells.six HB.out j hlt
          have oA := (HW.out.inn.each j hlt).keep HB.out
          have mE := (HW.out.me j hlt).keep HB.out
          have CE := spareobj_any (ob l j).nm (ob l j).dA (G j).1 (ob l j).code.length (G j).2.1 (ob l j).data.length (G j).2.2.1 (ob l j).ss.length (G j).2.2.2 (ob l j).rs.length wr mE.1 mE.2.1 mE.2.2.1 mE.2.2.2 oA.hc oA.hd oA.hs oA.hl
          obtain rfl := Option.some.inj ea
          clear oA mE ea
          simp only [addz, wpl] at x0 x1 x2 x3 x4 x5
          go_wp2_with fail
          refine CE.mono ?_
          rintro e w1 ⟨rfl, hb1⟩
          have HB2 : Hid (Below w.heap.size w w1) := lb_trans HB.out hb1
          clear hb1 CE x0 x1 x2 x3 x4 x5
          go_wp2
          go_roundw
          case rel => exact ⟨j + 1, by go_num, by omega, HB2⟩
          case measure => simp [intOf]; omega
        · go_wp2
          go_ret
          exact ⟨rfl, HB.out⟩

end Go.Proofs.YtbckolkgncajfaaGreatDoor

namespace Go.Proofs.YtbckolkgncajfaaGreatDoor
open Go.RowKit

/-- The cells of a list copied with marks: the lists of the object at a place lie behind a block. -/
def wOb (l : List Ob) (s i : Nat) : Value := if i / 6 < l.length then (#[.string (ob l (i / 6)).nm, .slice (some ⟨s + 6 * (i / 6) + 2, 0, none⟩) (ob l (i / 6)).code.length ((ob l (i / 6)).code.length + 64), .int .i64 (ob l (i / 6)).dA, .slice (some ⟨s + 6 * (i / 6) + 3, 0, none⟩) (ob l (i / 6)).data.length ((ob l (i / 6)).data.length + 64), .slice (some ⟨s + 6 * (i / 6) + 4, 0, none⟩) (ob l (i / 6)).ss.length ((ob l (i / 6)).ss.length + 64), .slice (some ⟨s + 6 * (i / 6) + 5, 0, none⟩) (ob l (i / 6)).rs.length ((ob l (i / 6)).rs.length + 64)] : Array Value).getD (i % 6) (.int .i64 0) else (#[.string ⟨#[]⟩, .slice none 0 0, .int .i64 (9437184 + (i / 6 : Nat) + 1), .slice none 0 0, .slice none 0 0, .slice none 0 0] : Array Value).getD (i % 6) (.int .i64 0)
def zOb (i : Nat) : Value := (#[.string ⟨#[]⟩, .slice none 0 0, .int .i64 0, .slice none 0 0, .slice none 0 0, .slice none 0 0] : Array Value).getD (i % 6) (.int .i64 0)
theorem wOb_item0 (l : List Ob) (s k : Nat) (h : k < l.length) : wOb l s (k * 6) = .string (ob l k).nm := by
  have e : (k * 6) / 6 = k := by omega
  have m : (k * 6) % 6 = 0 := by omega
  simp [wOb, e, m, h]
theorem wOb_item1 (l : List Ob) (s k : Nat) (h : k < l.length) : wOb l s (k * 6 + 1) = .slice (some ⟨s + 6 * k + 2, 0, none⟩) (ob l k).code.length ((ob l k).code.length + 64) := by
  have e : (k * 6 + 1) / 6 = k := by omega
  have m : (k * 6 + 1) % 6 = 1 := by omega
  simp [wOb, e, m, h]
theorem wOb_item2 (l : List Ob) (s k : Nat) (h : k < l.length) : wOb l s (k * 6 + 2) = .int .i64 (ob l k).dA := by
  have e : (k * 6 + 2) / 6 = k := by omega
  have m : (k * 6 + 2) % 6 = 2 := by omega
  simp [wOb, e, m, h]
theorem wOb_item3 (l : List Ob) (s k : Nat) (h : k < l.length) : wOb l s (k * 6 + 3) = .slice (some ⟨s + 6 * k + 3, 0, none⟩) (ob l k).data.length ((ob l k).data.length + 64) := by
  have e : (k * 6 + 3) / 6 = k := by omega
  have m : (k * 6 + 3) % 6 = 3 := by omega
  simp [wOb, e, m, h]
theorem wOb_item4 (l : List Ob) (s k : Nat) (h : k < l.length) : wOb l s (k * 6 + 4) = .slice (some ⟨s + 6 * k + 4, 0, none⟩) (ob l k).ss.length ((ob l k).ss.length + 64) := by
  have e : (k * 6 + 4) / 6 = k := by omega
  have m : (k * 6 + 4) % 6 = 4 := by omega
  simp [wOb, e, m, h]
theorem wOb_item5 (l : List Ob) (s k : Nat) (h : k < l.length) : wOb l s (k * 6 + 5) = .slice (some ⟨s + 6 * k + 5, 0, none⟩) (ob l k).rs.length ((ob l k).rs.length + 64) := by
  have e : (k * 6 + 5) / 6 = k := by omega
  have m : (k * 6 + 5) % 6 = 5 := by omega
  simp [wOb, e, m, h]
theorem wOb_mark0 (l : List Ob) (s k : Nat) (h : ¬ k < l.length) : wOb l s (k * 6) = .string ⟨#[]⟩ := by
  have e : (k * 6) / 6 = k := by omega
  have m : (k * 6) % 6 = 0 := by omega
  simp [wOb, e, m, h]
theorem wOb_mark1 (l : List Ob) (s k : Nat) (h : ¬ k < l.length) : wOb l s (k * 6 + 1) = .slice none 0 0 := by
  have e : (k * 6 + 1) / 6 = k := by omega
  have m : (k * 6 + 1) % 6 = 1 := by omega
  simp [wOb, e, m, h]
theorem wOb_mark2 (l : List Ob) (s k : Nat) (h : ¬ k < l.length) : wOb l s (k * 6 + 2) = .int .i64 (9437184 + k + 1) := by
  have e : (k * 6 + 2) / 6 = k := by omega
  have m : (k * 6 + 2) % 6 = 2 := by omega
  simp [wOb, e, m, h]
theorem wOb_mark3 (l : List Ob) (s k : Nat) (h : ¬ k < l.length) : wOb l s (k * 6 + 3) = .slice none 0 0 := by
  have e : (k * 6 + 3) / 6 = k := by omega
  have m : (k * 6 + 3) % 6 = 3 := by omega
  simp [wOb, e, m, h]
theorem wOb_mark4 (l : List Ob) (s k : Nat) (h : ¬ k < l.length) : wOb l s (k * 6 + 4) = .slice none 0 0 := by
  have e : (k * 6 + 4) / 6 = k := by omega
  have m : (k * 6 + 4) % 6 = 4 := by omega
  simp [wOb, e, m, h]
theorem wOb_mark5 (l : List Ob) (s k : Nat) (h : ¬ k < l.length) : wOb l s (k * 6 + 5) = .slice none 0 0 := by
  have e : (k * 6 + 5) / 6 = k := by omega
  have m : (k * 6 + 5) % 6 = 5 := by omega
  simp [wOb, e, m, h]
theorem wcur_step {f z : Nat → Value} {N k : Nat} {v : Value} (hv : f k = v) (h : k < N) : (wcur f z N k).setIfInBounds k v = wcur f z N (k + 1) := by
  rw [← hv]
  exact wcur_set f z N k h
theorem ob_item (l : List Ob) (s k : Nat) (h : k < l.length) : ((((((wcur (wOb l s) zOb ((l.length + 64) * 6) (k * 6)).setIfInBounds (k * 6) (.string (ob l k).nm)).setIfInBounds (k * 6 + 1) (.slice (some ⟨s + 6 * k + 2, 0, none⟩) (ob l k).code.length ((ob l k).code.length + 64))).setIfInBounds (k * 6 + 2) (.int .i64 (ob l k).dA)).setIfInBounds (k * 6 + 3) (.slice (some ⟨s + 6 * k + 3, 0, none⟩) (ob l k).data.length ((ob l k).data.length + 64))).setIfInBounds (k * 6 + 4) (.slice (some ⟨s + 6 * k + 4, 0, none⟩) (ob l k).ss.length ((ob l k).ss.length + 64))).setIfInBounds (k * 6 + 5) (.slice (some ⟨s + 6 * k + 5, 0, none⟩) (ob l k).rs.length ((ob l k).rs.length + 64)) = wcur (wOb l s) zOb ((l.length + 64) * 6) ((k + 1) * 6) := by
  rw [wcur_step (wOb_item0 l s k h) (by omega), wcur_step (wOb_item1 l s k h) (by omega), wcur_step (wOb_item2 l s k h) (by omega), wcur_step (wOb_item3 l s k h) (by omega), wcur_step (wOb_item4 l s k h) (by omega), wcur_step (wOb_item5 l s k h) (by omega), show (k + 1) * 6 = k * 6 + 6 by omega]
theorem ob_mark (l : List Ob) (s k : Nat) (hk : k < l.length + 64) (h : ¬ k < l.length) : ((((((wcur (wOb l s) zOb ((l.length + 64) * 6) (k * 6)).setIfInBounds (k * 6) (.string ⟨#[]⟩)).setIfInBounds (k * 6 + 1) (.slice none 0 0)).setIfInBounds (k * 6 + 2) (.int .i64 (9437184 + k + 1))).setIfInBounds (k * 6 + 3) (.slice none 0 0)).setIfInBounds (k * 6 + 4) (.slice none 0 0)).setIfInBounds (k * 6 + 5) (.slice none 0 0) = wcur (wOb l s) zOb ((l.length + 64) * 6) ((k + 1) * 6) := by
  rw [wcur_step (wOb_mark0 l s k h) (by omega), wcur_step (wOb_mark1 l s k h) (by omega), wcur_step (wOb_mark2 l s k h) (by omega), wcur_step (wOb_mark3 l s k h) (by omega), wcur_step (wOb_mark4 l s k h) (by omega), wcur_step (wOb_mark5 l s k h) (by omega), show (k + 1) * 6 = k * 6 + 6 by omega]
theorem info65 : ∃ i, Tryz.prog.info? 65 = some i ∧ i.zero = some (.agg #[.string ⟨#[]⟩, .slice none 0 0, .int .i64 0, .slice none 0 0, .slice none 0 0, .slice none 0 0]) ∧ i.size = 6 ∧ i.bytes = 120 :=
  ⟨(Tryz.prog.info? 65).get (by kernel_rfl), by kernel_rfl, by kernel_rfl, by kernel_rfl, by kernel_rfl⟩
theorem made_ob (f : Nat → Value) (N : Nat) : madeCells #[.string ⟨#[]⟩, .slice none 0 0, .int .i64 0, .slice none 0 0, .slice none 0 0, .slice none 0 0] N = wcur f zOb N 0 := by
  apply Array.ext_getElem?
  intro i
  by_cases hi : i < N
  · rw [wcur_get _ _ _ _ _ hi]
    have h : i % 6 = 0 ∨ i % 6 = 1 ∨ i % 6 = 2 ∨ i % 6 = 3 ∨ i % 6 = 4 ∨ i % 6 = 5 := by omega
    rcases h with h | h | h | h | h | h <;> simp [madeCells, hi, h, zOb]
  · rw [Array.getElem?_eq_none (by simp [madeCells]; omega), Array.getElem?_eq_none (by simp [wcur_size]; omega)]
theorem make53 (f : Nat → Value) (n : Nat) (hn : n ≤ 1048576) (w : World) : (Instr.makeSlice 53 (.int .i64 ((n : Int) + 64)) (.int .i64 ((n : Int) + 64))).run Tryz.prog w = .ok (.slice (some ⟨w.heap.size, 0, none⟩) (n + 64) (n + 64)) (w.alloc (.cells (wcur f zOb ((n + 64) * 6) 0) 65)) := by
  obtain ⟨i, hi, hz, hs, hb⟩ := info65
  have h := run_makeSlice (P := Tryz.prog) w 53 65 i _ Tryz.underlying53 hi hz .i64 .i64 ((n : Int) + 64) ((n : Int) + 64) (by omega) (by omega) (by rw [hs]; omega) (by rw [hb]; omega) (by omega)
  rw [hs, show ((n : Int) + 64).toNat = n + 64 by omega] at h
  rw [h, ← made_ob f ((n + 64) * 6)]
  rfl
/-- The four blocks of an object's lists, behind a block. -/
def Blk (w : World) (o : Ob) (b : Nat) : Prop := w.heap[b + 2]? = some (.cells (wcur (wInt .u32 o.code) (fun _ => .int .u32 0) (o.code.length + 64) (o.code.length + 64)) 31 (0, 0)) ∧ w.heap[b + 3]? = some (.cells (wcur (wInt .i64 o.data) (fun _ => .int .i64 0) (o.data.length + 64) (o.data.length + 64)) 2 (0, 0)) ∧ w.heap[b + 4]? = some (.cells (wcur (wSym o.ss) zSym ((o.ss.length + 64) * 3) ((o.ss.length + 64) * 3)) 69 (0, 0)) ∧ w.heap[b + 5]? = some (.cells (wcur (wRel o.rs) (fun _ => .int .i64 0) ((o.rs.length + 64) * 2) ((o.rs.length + 64) * 2)) 71 (0, 0))
theorem blk_ints {w : World} {g : Nat} {K : IntKind} {z : Nat → Value} {zs : List Int} {t : TypeId} (h : w.heap[g]? = some (.cells (wcur (wInt K zs) z (zs.length + 64) (zs.length + 64)) t (0, 0))) : IntsAt w (some ⟨g, 0, none⟩) K zs := fun i hi =>
  ⟨_, rfl, by rw [addz, Lib.cell_of_heap h, wcur_full _ _ _ _ (by omega)]; simp [wInt, hi]⟩
theorem blk_marki {w : World} {g : Nat} {K : IntKind} {z : Nat → Value} {zs : List Int} {t : TypeId} (h : w.heap[g]? = some (.cells (wcur (wInt K zs) z (zs.length + 64) (zs.length + 64)) t (0, 0))) : MarkI w K g zs.length := fun i h1 h2 => by
  rw [Lib.cell_of_heap h, wcur_full _ _ _ _ h2]; simp [wInt, mark, show ¬ i < zs.length by omega]
theorem blk_syms {w : World} {g : Nat} {zs : List Sym} {t : TypeId} (h : w.heap[g]? = some (.cells (wcur (wSym zs) zSym ((zs.length + 64) * 3) ((zs.length + 64) * 3)) t (0, 0))) : SymsAt w (some ⟨g, 0, none⟩) zs := fun i hi =>
  ⟨_, rfl, by rw [addz, Lib.cell_of_heap h, wcur_full _ _ _ _ (by omega), wSym_item0 zs i hi], by rw [addz2 _ _ _ (by omega), Lib.cell_of_heap h, wcur_full _ _ _ _ (by omega), wSym_item1 zs i hi], by rw [addz2 _ _ _ (by omega), Lib.cell_of_heap h, wcur_full _ _ _ _ (by omega), wSym_item2 zs i hi]⟩
theorem blk_marks {w : World} {g : Nat} {zs : List Sym} {t : TypeId} (h : w.heap[g]? = some (.cells (wcur (wSym zs) zSym ((zs.length + 64) * 3) ((zs.length + 64) * 3)) t (0, 0))) : MarkS w g zs.length := fun i h1 h2 =>
  ⟨by rw [Lib.cell_of_heap h, wcur_full _ _ _ _ (by omega), wSym_mark0 zs i (by omega)], by rw [Lib.cell_of_heap h, wcur_full _ _ _ _ (by omega), wSym_mark1 zs i (by omega)], by rw [Lib.cell_of_heap h, wcur_full _ _ _ _ (by omega), wSym_mark2 zs i (by omega)]⟩
theorem blk_rels {w : World} {g : Nat} {z : Nat → Value} {zs : List Rel} {t : TypeId} (h : w.heap[g]? = some (.cells (wcur (wRel zs) z ((zs.length + 64) * 2) ((zs.length + 64) * 2)) t (0, 0))) : RelsAt w (some ⟨g, 0, none⟩) zs := fun i hi =>
  ⟨_, rfl, by rw [addz, Lib.cell_of_heap h, wcur_full _ _ _ _ (by omega), wRel_item0 zs i hi], by rw [addz2 _ _ _ (by omega), Lib.cell_of_heap h, wcur_full _ _ _ _ (by omega), wRel_item1 zs i hi]⟩
theorem blk_markr {w : World} {g : Nat} {z : Nat → Value} {zs : List Rel} {t : TypeId} (h : w.heap[g]? = some (.cells (wcur (wRel zs) z ((zs.length + 64) * 2) ((zs.length + 64) * 2)) t (0, 0))) : MarkR w g zs.length := fun i h1 h2 =>
  ⟨by rw [Lib.cell_of_heap h, wcur_full _ _ _ _ (by omega), wRel_mark0 zs i (by omega)], by rw [Lib.cell_of_heap h, wcur_full _ _ _ _ (by omega), wRel_mark1 zs i (by omega)]⟩
def GO (s i : Nat) : Nat × Nat × Nat × Nat := (s + 6 * i + 2, s + 6 * i + 3, s + 6 * i + 4, s + 6 * i + 5)
theorem Blk.marks {w : World} {o : Ob} {s i : Nat} (h : Blk w o (s + 6 * i)) : MarkE w o (GO s i) := ⟨blk_marki h.1, blk_marki h.2.1, blk_marks h.2.2.1, blk_markr h.2.2.2⟩
theorem Blk.inn {w w0 : World} {o : Ob} {p : Pl} {s i : Nat} (h : Blk w o (s + 6 * i)) (h0 : ObIn w0 p o) : ObIn w (wpl o (GO s i)) o :=
  ⟨blk_ints h.1, blk_ints h.2.1, blk_syms h.2.2.1, blk_rels h.2.2.2, h0.cr, h0.dr, h0.da, h0.hc, h0.hd, h0.hs, h0.hl, h0.hN, Nat.le_add_right _ _⟩
theorem Blk.keep {w w1 : World} {o : Ob} {b : Nat} (h : Blk w o b) (hk : ∀ i, b + 2 ≤ i → i < b + 6 → w1.heap[i]? = w.heap[i]?) : Blk w1 o b :=
  ⟨(hk _ (by omega) (by omega)).trans h.1, (hk _ (by omega) (by omega)).trans h.2.1, (hk _ (by omega) (by omega)).trans h.2.2.1, (hk _ (by omega) (by omega)).trans h.2.2.2⟩
theorem row_obs {w : World} {g s : Nat} {l : List Ob} (h : w.heap[g]? = some (.cells (wcur (wOb l s) zOb ((l.length + 64) * 6) ((l.length + 64) * 6)) 65 (0, 0))) : ObsAt w (some ⟨g, 0, none⟩) (fun i => wpl (ob l i) (GO s i)) l := fun i hi =>
  ⟨_, rfl, by rw [addz, Lib.cell_of_heap h, wcur_full _ _ _ _ (by omega), wOb_item0 l s i hi], by rw [addz2 _ _ _ (by omega), Lib.cell_of_heap h, wcur_full _ _ _ _ (by omega), wOb_item1 l s i hi]; rfl, by rw [addz2 _ _ _ (by omega), Lib.cell_of_heap h, wcur_full _ _ _ _ (by omega), wOb_item2 l s i hi], by rw [addz2 _ _ _ (by omega), Lib.cell_of_heap h, wcur_full _ _ _ _ (by omega), wOb_item3 l s i hi]; rfl, by rw [addz2 _ _ _ (by omega), Lib.cell_of_heap h, wcur_full _ _ _ _ (by omega), wOb_item4 l s i hi]; rfl, by rw [addz2 _ _ _ (by omega), Lib.cell_of_heap h, wcur_full _ _ _ _ (by omega), wOb_item5 l s i hi]; rfl⟩
theorem row_marks {w : World} {g s : Nat} {l : List Ob} (h : w.heap[g]? = some (.cells (wcur (wOb l s) zOb ((l.length + 64) * 6) ((l.length + 64) * 6)) 65 (0, 0))) : MarkO w g l.length := fun i h1 h2 =>
  ⟨by rw [Lib.cell_of_heap h, wcur_full _ _ _ _ (by omega), wOb_mark0 l s i (by omega)], by rw [Lib.cell_of_heap h, wcur_full _ _ _ _ (by omega), wOb_mark1 l s i (by omega)], by rw [Lib.cell_of_heap h, wcur_full _ _ _ _ (by omega), wOb_mark2 l s i (by omega)], by rw [Lib.cell_of_heap h, wcur_full _ _ _ _ (by omega), wOb_mark3 l s i (by omega)], by rw [Lib.cell_of_heap h, wcur_full _ _ _ _ (by omega), wOb_mark4 l s i (by omega)], by rw [Lib.cell_of_heap h, wcur_full _ _ _ _ (by omega), wOb_mark5 l s i (by omega)]⟩
theorem set_off {w : World} {g k i : Nat} (u : Value) (hi : ¬ g = i) : (w.setCell ⟨g, k, none⟩ u).heap[i]? = w.heap[i]? := by
  simp [World.setCell, Array.getElem?_modify, hi]

end Go.Proofs.YtbckolkgncajfaaGreatDoor
