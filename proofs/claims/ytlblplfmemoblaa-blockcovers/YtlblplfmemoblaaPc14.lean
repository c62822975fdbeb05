/-
  Lists of blocks, how they lie in memory. A row that is written from its end on. Blocks of package block, by what it answers; each word is of 32 bits.
-/
import Derived.Test.YtlblplfmemoblaaProg
import Derived.WalkKit
import Derived.WalkSpells
import Derived.WalkLawsBesides
import Derived.RowKit3
import Derived.Below
import Derived.Deep.QuietTactic
import Derived.BigQuiet
import Derived.WalkSmall
import Derived.Laws.Rows
import Derived.Test.YtlblplfmemoblaaPc04
import Derived.Test.YtlblplfmemoblaaPc10
import Derived.Test.YtlblplfmemoblaaPc13
import Derived.Deep.AppendLies
import Derived.Test.YtlblplfmemoblaaPc12
import Derived.Test.YtlblplfmemoblaaPc05
namespace Go.Proofs.Ytlblplfmemoblaa
open Go.RowKit

/-- The cells of a list of blocks. -/
def dNews : List Rel → List Value
  | [] => []
  | x :: l => .int .i64 x.1 :: .int .i64 x.2 :: dNews l
theorem dNews_append : ∀ a b : List Rel, dNews (a ++ b) = dNews a ++ dNews b
  | [], _ => rfl
  | x :: a, b => by rw [List.cons_append, dNews, dNews, dNews_append a b]; rfl
theorem dNews_snoc (a : List Rel) (x : Rel) : dNews (a ++ [x]) = dNews a ++ [.int .i64 x.1, .int .i64 x.2] := dNews_append a [x]
theorem dNews_len : ∀ l : List Rel, (dNews l).length = l.length * 2
  | [] => rfl
  | x :: l => by simp [dNews, dNews_len l]; omega
theorem dNews_get : ∀ {l : List Rel} {i : Nat}, i < l.length → (dNews l)[i * 2]? = some (.int .i64 (rAt l i)) ∧ (dNews l)[i * 2 + 1]? = some (.int .i64 (rSym l i))
  | [], _, h => absurd h (Nat.not_lt_zero _)
  | x :: l, 0, _ => ⟨rfl, rfl⟩
  | x :: l, i + 1, h => by
    have := dNews_get (l := l) (i := i) (by simpa using h)
    rw [show (i + 1) * 2 = i * 2 + 1 + 1 by omega]
    exact this
theorem dNews_one : ∀ (l : List Rel), ∀ u ∈ dNews l, u.oneCell' = true
  | [], u, hu => by simp [dNews] at hu
  | x :: l, u, hu => by
    simp only [dNews, List.mem_cons] at hu
    rcases hu with rfl | rfl | hu
    · rfl
    · rfl
    · exact dNews_one l u hu
theorem dNews_cell {w : World} {a : Addr} {zs : List Rel} (hA : RelsAt w (some a) zs) (j : Nat) (u : Value) (h : (dNews zs)[j]? = some u) : w.cell? (a.add j) = some u := by
  have hj : j < zs.length * 2 := by
    have := (List.getElem?_eq_some_iff.1 h).1; rwa [dNews_len] at this
  obtain ⟨i, hi⟩ : ∃ i, i = j / 2 := ⟨_, rfl⟩
  obtain ⟨b, e, c0, c1⟩ := hA i (by omega)
  obtain rfl := Option.some.inj e
  obtain ⟨g0, g1⟩ := dNews_get (l := zs) (i := i) (by omega)
  have hm : j = i * 2 ∨ j = i * 2 + 1 := by omega
  clear hi
  rcases hm with rfl | rfl
  · rw [c0, ← h, g0]
  · rw [g1] at h
    rw [← h, ← Deep.add_add]
    exact c1
theorem drow_rels {w : World} {base c n : Nat} {e : TypeId} {A : Option Addr} {l : List Rel} (h : w.ownsRow base e 2 (.slice A n c) l.length (dNews l)) : RelsAt w A l := fun i hi => by
  rcases h.2 with ⟨_, h0⟩ | ⟨j, cap, cur, hv, hb, hg, hc, _⟩
  · omega
  · cases hv
    obtain ⟨a, b⟩ := dNews_get hi
    exact ⟨_, rfl, h.cells rfl _ _ a, by rw [Deep.add_add]; exact h.cells rfl _ _ b⟩
theorem no_rels (w : World) : RelsAt w none [] := fun i hi => by simp at hi
theorem infoB : ∃ i, Try.prog.info? 47 = some i ∧ i.zero = some (.agg #[.int .i64 0, .int .i64 0]) ∧ i.size = 2 ∧ i.bytes = 16 :=
  ⟨(Try.prog.info? 47).get (by kernel_rfl), by kernel_rfl, by kernel_rfl, by kernel_rfl, by kernel_rfl⟩
theorem two_oneI {x y : Int} : ∀ u ∈ [Value.int .i64 x, .int .i64 y], u.oneCell' = true := fun u hu => by
  simp only [List.mem_cons, List.not_mem_nil, or_false] at hu
  rcases hu with rfl | rfl <;> rfl
set_option maxHeartbeats 1000000 in
theorem copyblocks_any (O : Option Addr) (ca : Nat) (zs : List Rel) (w : World) (hA : RelsAt w O zs) (h0 : O = none → ca = 0) (hz : zs.length ≤ 1048576) :
    Calls Try.prog 19 #[.slice O zs.length ca] w fun e w' => CopyP 47 2 zs.length (dNews zs) w e w' := by
  obtain ⟨i0, hi, hz0, hz1, hz2⟩ := infoB
  cases O with
  | none =>
    obtain rfl := h0 rfl
    have hl : zs.length = 0 := by
      cases zs with
      | nil => rfl
      | cons x t => obtain ⟨a, e, _⟩ := hA 0 (by simp); cases e
    have hn : dNews zs = [] := by
      cases zs with
      | nil => rfl
      | cons x t => simp at hl
    rw [hl, hn]
    have hr := run_append_owned_none (P := Try.prog) (w := w) w.heap.size 35 35 47 i0 2 Try.underlying35 hi (.slice none 0 0) 0 [] (World.ownsRow_nil w _ _ _)
    go_enter Try.func19, Try.ntmps19
    go_wp2
    go_ret
    exact copyP_mk rfl (World.ownsRow_nil w _ _ _) (World.grownBy.refl w _)
  | some a =>
    go_enter Try.func19, Try.ntmps19
    go_wp2_with (at_builtin; go_loud (refine wpList_append_own _ rfl (.tmp 4) (.tmp 5) 35 rfl w.heap.size 47 i0 (.agg #[.int .i64 0, .int .i64 0]) 2 16 Try.underlying35 hi hz0 hz1 hz2 rfl (by decide) (.slice none 0 0) 0 [] rfl (World.ownsRow_nil w _ _ _) a zs.length ca (dNews zs) rfl (dNews_len zs) (dNews_cell hA) (dNews_one _) (by unfold maxLen; omega) (by omega) (Nat.le_refl _) ?_; intro v' w' hown hgrow hnil))
    go_ret
    exact copyP_mk rfl (by simpa using hown) hgrow

end Go.Proofs.Ytlblplfmemoblaa

namespace Go.Proofs.Ytlblplfmemoblaa
open Go.RowKit

theorem wdn_set2 (f z : Nat → Value) (N k : Nat) (h : k + 1 < N) : (((wcur z f N (k + 2)).setIfInBounds k (f k)).setIfInBounds (k + 1) (f (k + 1))) = wcur z f N k := by
  apply Array.ext_getElem?
  intro i
  by_cases hi : i < N
  · rw [wcur_get _ _ _ _ _ hi, Array.getElem?_setIfInBounds, Array.size_setIfInBounds, wcur_size, Array.getElem?_setIfInBounds, wcur_size]
    by_cases h1 : k + 1 = i
    · subst h1; rw [if_pos rfl, if_pos h, if_neg (by omega)]
    · rw [if_neg h1]
      by_cases h2 : k = i
      · subst h2; rw [if_pos rfl, if_pos hi, if_neg (by omega)]
      · rw [if_neg h2, wcur_get _ _ _ _ _ hi]
        by_cases h3 : i < k
        · simp [h3, show i < k + 2 by omega]
        · simp [h3, show ¬ i < k + 2 by omega]
  · rw [Array.getElem?_eq_none (by simp [wcur_size]; omega), Array.getElem?_eq_none (by simp [wcur_size]; omega)]
/-- Where the block ahead of the beginning j ends. -/
def endB (ps : List Int) (n : Int) (j : Nat) : Int := if j < ps.length then nth ps j else n
def bCell (ps : List Int) (n : Int) (i : Nat) : Value := if i % 2 = 0 then .int .i64 (nth ps (i / 2)) else .int .i64 (endB ps n (i / 2 + 1))
def zCell (_ : Nat) : Value := .int .i64 0
theorem bCell0 (ps : List Int) (n : Int) (k : Nat) : bCell ps n (k * 2) = .int .i64 (nth ps k) := by
  have e : (k * 2) / 2 = k := by omega
  have m : (k * 2) % 2 = 0 := by omega
  unfold bCell
  rw [if_pos m, e]
theorem bCell1 (ps : List Int) (n : Int) (k : Nat) : bCell ps n (k * 2 + 1) = .int .i64 (endB ps n (k + 1)) := by
  have e : (k * 2 + 1) / 2 = k := by omega
  have m : ¬ (k * 2 + 1) % 2 = 0 := by omega
  unfold bCell
  rw [if_neg m, e]
theorem blk_step (ps : List Int) (n : Int) (k : Nat) (h : k < ps.length) : (((wcur zCell (bCell ps n) (ps.length * 2) ((k + 1) * 2)).setIfInBounds (k * 2) (.int .i64 (nth ps k))).setIfInBounds (k * 2 + 1) (.int .i64 (endB ps n (k + 1)))) = wcur zCell (bCell ps n) (ps.length * 2) (k * 2) := by
  rw [← bCell0 ps n k, ← bCell1 ps n k, show (k + 1) * 2 = k * 2 + 2 by omega]
  exact wdn_set2 _ _ _ _ (by omega)
theorem blk_done (ps : List Int) (n : Int) : (wcur zCell (bCell ps n) (ps.length * 2) 0).toList = dNews (zipN ps n) := by
  apply List.ext_getElem?
  intro i
  rw [Array.getElem?_toList]
  by_cases hi : i < ps.length * 2
  · rw [wcur_get _ _ _ _ _ hi, if_neg (by omega)]
    obtain ⟨k, hk⟩ : ∃ k, i = k * 2 ∨ i = k * 2 + 1 := ⟨i / 2, by omega⟩
    have hkl : k < ps.length := by omega
    obtain ⟨g0, g1⟩ := dNews_get (l := zipN ps n) (i := k) (by rw [zipN_len]; exact hkl)
    obtain ⟨z0, z1⟩ := zipN_at ps n k hkl
    rcases hk with rfl | rfl
    · rw [g0, bCell0, z0]
    · rw [g1, bCell1, z1]; rfl
  · rw [Array.getElem?_eq_none (by simp [wcur_size]; omega), List.getElem?_eq_none (by rw [dNews_len, zipN_len]; omega)]
theorem made_blk (ps : List Int) (n : Int) (N : Nat) : madeCells #[.int .i64 0, .int .i64 0] N = wcur zCell (bCell ps n) N N := by
  apply Array.ext_getElem?
  intro i
  by_cases hi : i < N
  · rw [wcur_get _ _ _ _ _ hi, if_pos hi]
    have h : i % 2 = 0 ∨ i % 2 = 1 := by omega
    rcases h with h | h <;> simp [madeCells, hi, h, zCell]
  · rw [Array.getElem?_eq_none (by simp [madeCells]; omega), Array.getElem?_eq_none (by simp [wcur_size]; omega)]
theorem make_blk (ps : List Int) (n : Int) (hn : ps.length ≤ 1048576) (w : World) : (Instr.makeSlice 35 (.int .i64 (ps.length : Int)) (.int .i64 (ps.length : Int))).run Try.prog w = .ok (.slice (some ⟨w.heap.size, 0, none⟩) ps.length ps.length) (w.alloc (.cells (wcur zCell (bCell ps n) (ps.length * 2) (ps.length * 2)) 47)) := by
  obtain ⟨i, hi, hz, hs, hb⟩ := infoB
  have h := run_makeSlice (P := Try.prog) w 35 47 i _ Try.underlying35 hi hz .i64 .i64 (ps.length : Int) (ps.length : Int) (by omega) (by omega) (by rw [hs]; omega) (by rw [hb]; omega) (by omega)
  rw [hs, show ((ps.length : Int)).toNat = ps.length by omega] at h
  rw [h, ← made_blk ps n (ps.length * 2)]
  rfl
theorem own_blk (ps : List Int) (n : Int) (w : World) (hn : ps.length ≤ 1048576) : (w.alloc (.cells (wcur zCell (bCell ps n) (ps.length * 2) 0) 47)).ownsRow w.heap.size 47 2 (.slice (some ⟨w.heap.size, 0, none⟩) (zipN ps n).length ps.length) (zipN ps n).length (dNews (zipN ps n)) := by
  refine ⟨by rw [dNews_len], Or.inr ⟨w.heap.size, ps.length, wcur zCell (bCell ps n) (ps.length * 2) 0, rfl, Nat.le_refl _, heap_alloc_new _ _, by rw [zipN_len]; exact Nat.le_refl _, by unfold maxLen; omega, by rw [wcur_size], ?_⟩⟩
  rw [zipN_len, blk_done, List.take_of_length_le (by rw [dNews_len, zipN_len]; exact Nat.le_refl _)]
/-- An answer of Blocks. -/
def BlkP (E : Int) (l : List Rel) (w : World) (e : Ending) (w' : World) : Prop :=
  ∃ (A : Option Addr) (c : Nat), e = .returned (.tuple #[.slice A l.length c, .int .i64 E]) ∧ w'.ownsRow w.heap.size 47 2 (.slice A l.length c) l.length (dNews l) ∧ Below w.heap.size w w'
def outB (text : List Int) (ml : Nat) (ent : Int) : List Rel := if (checkI text ml ent).1 = 0 then blkL text ent else []

end Go.Proofs.Ytlblplfmemoblaa

namespace Go.Proofs.Ytlblplfmemoblaa
open Go.RowKit

set_option maxRecDepth 100000 in
set_option maxHeartbeats 2000000 in
theorem blocks_any (A1 A2 : Option Addr) (c1 ml c2 : Nat) (ent : Int) (text : List Int) (w : World) (hT : IntsAt w A1 .u32 text) (hR : ∀ i, i < text.length → 0 ≤ nth text i ∧ nth text i < 4294967296) (hl : text.length ≤ 1048576) (hm : ml ≤ 1048576) :
    Calls Try.prog 13 #[.agg #[.slice A1 text.length c1, .int .i64 ent, .slice A2 ml c2]] w (BlkP (checkI text ml ent).1 (outB text ml ent) w) := by
  obtain ⟨W, HW⟩ : ∃ W, Hid (w.alloc (.cells #[.slice A1 text.length c1, .int .i64 ent, .slice A2 ml c2] 25) = W) := ⟨_, rfl⟩
  have HB : Hid (Below w.heap.size w W) := by unfold Hid; rw [← HW.out]; exact lb_alloc (Below.refl _ _) _
  have i0 : W.cell? ⟨w.heap.size, 0, none⟩ = some (.slice A1 text.length c1) := by rw [← HW.out]; simp [go_sem]
  have i1 : W.cell? ⟨w.heap.size, 1, none⟩ = some (.int .i64 ent) := by rw [← HW.out]; simp [go_sem]
  have i2 : W.cell? ⟨w.heap.size, 2, none⟩ = some (.slice A2 ml c2) := by rw [← HW.out]; simp [go_sem]
  have C := gather_beg A1 A2 c1 ml c2 ent text W (hT.keep HB.out) hR hl hm
  clear hT hR
  by_cases hE : (checkI text ml ent).1 = 0
  · have HX : Hid (outB text ml ent = zipN (plcT (begF text ent) text.length) (text.length : Int)) := if_pos hE
    have hp := plcT_len (begF text ent) text.length
    rw [outL_ok hE, hE] at C
    have HE : Hid ((checkI text ml ent).1 = 0) := hE
    clear hE
    generalize plcT (begF text ent) text.length = ps at *
    have hmk := make_blk ps (text.length : Int) (by omega)
    go_enter Try.func13, Try.ntmps13
    go_upto_region 1 with fail
    rw [HW.out]
    clear HW
    go_wp2_with fail
    refine C.mono ?_
    rintro e w1 ⟨A, c, rfl, hown, hb1⟩
    have HB1 : Hid (Below w.heap.size w w1) := lb_trans HB.out hb1
    have j0 := lkeep hb1 i0
    have HI : Hid (IntsAt w1 A .i64 ps) := row_ints hown
    clear i0 i1 i2 hb1 hown C
    have j0' : (w1.alloc (.cells (wcur zCell (bCell ps (text.length : Int)) (ps.length * 2) (ps.length * 2)) 47)).cell? ⟨w.heap.size, 0, none⟩ = some (.slice A1 text.length c1) := lkeep (lb_alloc (Below.refl _ _) _) j0
    clear j0
    go_wp2
    go_loopw [7, 8] (fun en i wr => ∃ j : Nat, (i = .int .i64 (-1) ∧ j = 0 ∨ ∃ m : Nat, j = m + 1 ∧ i = .int .i64 (m : Int)) ∧ en = .int .i64 (endB ps (text.length : Int) j) ∧ j ≤ ps.length ∧ wr = w1.alloc (.cells (wcur zCell (bCell ps (text.length : Int)) (ps.length * 2) (j * 2)) 47)) (fun _ i _ => (intOf i + 1).toNat)
    case atStart =>
      refine ⟨ps.length, ?_, ?_, Nat.le_refl _, rfl⟩
      · cases hps : ps.length with
        | zero => exact .inl ⟨by simp, rfl⟩
        | succ m => exact .inr ⟨m, rfl, by first | rfl | (simp; done) | (simp; omega)⟩
      · unfold endB; rw [if_neg (Nat.lt_irrefl _)]
    case round =>
      clear hmk j0'
      obtain ⟨j, hj, rfl, hjl, rfl⟩ := hrel
      rcases hj with ⟨rfl, rfl⟩ | ⟨m, rfl, rfl⟩
      · go_wp2
        go_ret2
        refine ⟨some ⟨w1.heap.size, 0, none⟩, ps.length, ?_, ?_, lb_alloc HB1.out _⟩
        · rw [HX.out, HE.out, zipN_len]; rfl
        · rw [HX.out]
          exact ownsRow_mono (own_blk ps (text.length : Int) w1 (by omega)) HB1.out.size
      · obtain ⟨a, rfl, q⟩ := HI.out m (by omega)
        have HS : Hid _ := blk_step ps (text.length : Int) m (by omega)
        have hsz := wcur_size zCell (bCell ps (text.length : Int)) (ps.length * 2) ((m + 1) * 2)
        have hg0 : (wcur zCell (bCell ps (text.length : Int)) (ps.length * 2) ((m + 1) * 2))[m * 2]? = some (zCell (m * 2)) := by rw [wcur_get _ _ _ _ _ (by omega), if_pos (by omega)]
        have hg1 : (wcur zCell (bCell ps (text.length : Int)) (ps.length * 2) ((m + 1) * 2))[m * 2 + 1]? = some (zCell (m * 2 + 1)) := by rw [wcur_get _ _ _ _ _ (by omega), if_pos (by omega)]
        have q1 : (w1.alloc (.cells (wcur zCell (bCell ps (text.length : Int)) (ps.length * 2) ((m + 1) * 2)) 47)).cell? (a.add m) = some (.int .i64 (nth ps m)) := lkeep (lb_alloc (Below.refl _ _) _) q
        have q2 : ∀ x y : Value, (w1.alloc (.cells (((wcur zCell (bCell ps (text.length : Int)) (ps.length * 2) ((m + 1) * 2)).setIfInBounds (m * 2) x).setIfInBounds (m * 2 + 1) y) 47)).cell? (a.add m) = some (.int .i64 (nth ps m)) := fun x y => lkeep (lb_alloc (Below.refl _ _) _) q
        have HV : Hid (nth ps m = endB ps (text.length : Int) m) := by unfold Hid endB; rw [if_pos (by omega)]
        clear q
        have hm0 : (m : Int) < (ps.length : Int) := by omega
        go_wp2
        go_roundw
        case rel =>
          refine ⟨m, ?_, by first | (rw [← HV.out]; done) | (rw [← HV.out]; rfl), by omega, by rw [← HS.out]⟩
          cases m with
          | zero => exact .inl ⟨by simp, rfl⟩
          | succ m => exact .inr ⟨m, rfl, by first | rfl | (simp; done) | (simp; omega)⟩
        case measure => first | (simp [intOf]; done) | (simp [intOf]; omega)
  · have HX : Hid (outB text ml ent = []) := if_neg hE
    rw [outL_no hE] at C
    have hne : ((checkI text ml ent).1 == 0) = false := by simpa using hE
    have hne2 : ((checkI text ml ent).1 != 0) = true := by simpa using hE
    clear hE
    generalize (checkI text ml ent).1 = E at *
    go_enter Try.func13, Try.ntmps13
    go_upto_region 1 with fail
    rw [HW.out]
    clear HW
    go_wp2_with fail
    refine C.mono ?_
    rintro e w1 ⟨A, c, rfl, hown, hb1⟩
    go_wp2
    go_ret2
    rw [HX.out]
    exact ⟨none, 0, rfl, World.ownsRow_nil _ _ _ _, lb_trans HB.out hb1⟩

end Go.Proofs.Ytlblplfmemoblaa
