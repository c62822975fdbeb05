/-
  Lists of blocks, how they lie in memory. A row that is written from its end on. markLabels, by what it marks; each word is of 32 bits. markBegins, by what it marks; each word is of 32 bits.
-/
import Derived.Test.YtfnicgihpelhhaaGreatProg
import Derived.WalkKit
import Derived.WalkSpells
import Derived.WalkLawsBesides
import Derived.RowKit3
import Derived.Below
import Derived.Deep.QuietTactic
import Derived.BigQuiet
import Derived.WalkSmall
import Derived.Laws.Rows
import Derived.Deep.AppendLies
import Derived.Test.YtfnicgihpelhhaaGreatPd02
import Derived.Test.YtfnicgihpelhhaaGreatPd10
import Derived.Test.YtfnicgihpelhhaaGreatPd04
import Derived.Test.YtfnicgihpelhhaaGreatPd11
namespace Go.Proofs.YtfnicgihpelhhaaGreat
open Go.RowKit

/-- The cells of a list of blocks. -/
def dNews : List Rel → List Value
  | [] => []
  | x :: l => .int .i64 x.1 :: .int .i64 x.2 :: dNews l
theorem dNews_append : ∀ a b : List Rel, dNews (a ++ b) = dNews a ++ dNews b
  | [], _ => rfl
  | x :: a, b => by rw [List.cons_append, dNews, dNews, dNews_append a b]; rfl
theorem dNews_snoc (a : List Rel) (x : Rel) : dNews (a ++ [x]) = dNews a ++ [.int .i64 x.1, .int .i64 x.2] := dNews_append a [x]
theorem dNews_len : ∀ l : List Rel, (dNews l).length = l.length * 2
  | [] => rfl
  | x :: l => by simp [dNews, dNews_len l]; omega
theorem dNews_get : ∀ {l : List Rel} {i : Nat}, i < l.length → (dNews l)[i * 2]? = some (.int .i64 (rAt l i)) ∧ (dNews l)[i * 2 + 1]? = some (.int .i64 (rSym l i))
  | [], _, h => absurd h (Nat.not_lt_zero _)
  | x :: l, 0, _ => ⟨rfl, rfl⟩
  | x :: l, i + 1, h => by
    have := dNews_get (l := l) (i := i) (by simpa using h)
    rw [show (i + 1) * 2 = i * 2 + 1 + 1 by omega]
    exact this
theorem dNews_one : ∀ (l : List Rel), ∀ u ∈ dNews l, u.oneCell' = true
  | [], u, hu => by simp [dNews] at hu
  | x :: l, u, hu => by
    simp only [dNews, List.mem_cons] at hu
    rcases hu with rfl | rfl | hu
    · rfl
    · rfl
    · exact dNews_one l u hu
theorem dNews_cell {w : World} {a : Addr} {zs : List Rel} (hA : RelsAt w (some a) zs) (j : Nat) (u : Value) (h : (dNews zs)[j]? = some u) : w.cell? (a.add j) = some u := by
  have hj : j < zs.length * 2 := by
    have := (List.getElem?_eq_some_iff.1 h).1; rwa [dNews_len] at this
  obtain ⟨i, hi⟩ : ∃ i, i = j / 2 := ⟨_, rfl⟩
  obtain ⟨b, e, c0, c1⟩ := hA i (by omega)
  obtain rfl := Option.some.inj e
  obtain ⟨g0, g1⟩ := dNews_get (l := zs) (i := i) (by omega)
  have hm : j = i * 2 ∨ j = i * 2 + 1 := by omega
  clear hi
  rcases hm with rfl | rfl
  · rw [c0, ← h, g0]
  · rw [g1] at h
    rw [← h, ← Deep.add_add]
    exact c1
theorem drow_rels {w : World} {base c n : Nat} {e : TypeId} {A : Option Addr} {l : List Rel} (h : w.ownsRow base e 2 (.slice A n c) l.length (dNews l)) : RelsAt w A l := fun i hi => by
  rcases h.2 with ⟨_, h0⟩ | ⟨j, cap, cur, hv, hb, hg, hc, _⟩
  · omega
  · cases hv
    obtain ⟨a, b⟩ := dNews_get hi
    exact ⟨_, rfl, h.cells rfl _ _ a, by rw [Deep.add_add]; exact h.cells rfl _ _ b⟩
theorem no_rels (w : World) : RelsAt w none [] := fun i hi => by simp at hi
theorem infoB : ∃ i, Tryz.prog.info? 67 = some i ∧ i.zero = some (.agg #[.int .i64 0, .int .i64 0]) ∧ i.size = 2 ∧ i.bytes = 16 :=
  ⟨(Tryz.prog.info? 67).get (by kernel_rfl), by kernel_rfl, by kernel_rfl, by kernel_rfl, by kernel_rfl⟩
theorem two_oneI {x y : Int} : ∀ u ∈ [Value.int .i64 x, .int .i64 y], u.oneCell' = true := fun u hu => by
  simp only [List.mem_cons, List.not_mem_nil, or_false] at hu
  rcases hu with rfl | rfl <;> rfl



end Go.Proofs.YtfnicgihpelhhaaGreat

namespace Go.Proofs.YtfnicgihpelhhaaGreat
open Go.RowKit

theorem wdn_set2 (f z : Nat → Value) (N k : Nat) (h : k + 1 < N) : (((wcur z f N (k + 2)).setIfInBounds k (f k)).setIfInBounds (k + 1) (f (k + 1))) = wcur z f N k := by
  apply Array.ext_getElem?
  intro i
  by_cases hi : i < N
  · rw [wcur_get _ _ _ _ _ hi, Array.getElem?_setIfInBounds, Array.size_setIfInBounds, wcur_size, Array.getElem?_setIfInBounds, wcur_size]
    by_cases h1 : k + 1 = i
    · subst h1; rw [if_pos rfl, if_pos h, if_neg (by omega)]
    · rw [if_neg h1]
      by_cases h2 : k = i
      · subst h2; rw [if_pos rfl, if_pos hi, if_neg (by omega)]
      · rw [if_neg h2, wcur_get _ _ _ _ _ hi]
        by_cases h3 : i < k
        · simp [h3, show i < k + 2 by omega]
        · simp [h3, show ¬ i < k + 2 by omega]
  · rw [Array.getElem?_eq_none (by simp [wcur_size]; omega), Array.getElem?_eq_none (by simp [wcur_size]; omega)]
/-- Where the block ahead of the beginning j ends. -/
def endB (ps : List Int) (n : Int) (j : Nat) : Int := if j < ps.length then nth ps j else n
def bCell (ps : List Int) (n : Int) (i : Nat) : Value := if i % 2 = 0 then .int .i64 (nth ps (i / 2)) else .int .i64 (endB ps n (i / 2 + 1))
def zCell (_ : Nat) : Value := .int .i64 0
theorem bCell0 (ps : List Int) (n : Int) (k : Nat) : bCell ps n (k * 2) = .int .i64 (nth ps k) := by
  have e : (k * 2) / 2 = k := by omega
  have m : (k * 2) % 2 = 0 := by omega
  unfold bCell
  rw [if_pos m, e]
theorem bCell1 (ps : List Int) (n : Int) (k : Nat) : bCell ps n (k * 2 + 1) = .int .i64 (endB ps n (k + 1)) := by
  have e : (k * 2 + 1) / 2 = k := by omega
  have m : ¬ (k * 2 + 1) % 2 = 0 := by omega
  unfold bCell
  rw [if_neg m, e]
theorem blk_step (ps : List Int) (n : Int) (k : Nat) (h : k < ps.length) : (((wcur zCell (bCell ps n) (ps.length * 2) ((k + 1) * 2)).setIfInBounds (k * 2) (.int .i64 (nth ps k))).setIfInBounds (k * 2 + 1) (.int .i64 (endB ps n (k + 1)))) = wcur zCell (bCell ps n) (ps.length * 2) (k * 2) := by
  rw [← bCell0 ps n k, ← bCell1 ps n k, show (k + 1) * 2 = k * 2 + 2 by omega]
  exact wdn_set2 _ _ _ _ (by omega)
theorem blk_done (ps : List Int) (n : Int) : (wcur zCell (bCell ps n) (ps.length * 2) 0).toList = dNews (zipN ps n) := by
  apply List.ext_getElem?
  intro i
  rw [Array.getElem?_toList]
  by_cases hi : i < ps.length * 2
  · rw [wcur_get _ _ _ _ _ hi, if_neg (by omega)]
    obtain ⟨k, hk⟩ : ∃ k, i = k * 2 ∨ i = k * 2 + 1 := ⟨i / 2, by omega⟩
    have hkl : k < ps.length := by omega
    obtain ⟨g0, g1⟩ := dNews_get (l := zipN ps n) (i := k) (by rw [zipN_len]; exact hkl)
    obtain ⟨z0, z1⟩ := zipN_at ps n k hkl
    rcases hk with rfl | rfl
    · rw [g0, bCell0, z0]
    · rw [g1, bCell1, z1]; rfl
  · rw [Array.getElem?_eq_none (by simp [wcur_size]; omega), List.getElem?_eq_none (by rw [dNews_len, zipN_len]; omega)]
theorem made_blk (ps : List Int) (n : Int) (N : Nat) : madeCells #[.int .i64 0, .int .i64 0] N = wcur zCell (bCell ps n) N N := by
  apply Array.ext_getElem?
  intro i
  by_cases hi : i < N
  · rw [wcur_get _ _ _ _ _ hi, if_pos hi]
    have h : i % 2 = 0 ∨ i % 2 = 1 := by omega
    rcases h with h | h <;> simp [madeCells, hi, h, zCell]
  · rw [Array.getElem?_eq_none (by simp [madeCells]; omega), Array.getElem?_eq_none (by simp [wcur_size]; omega)]
theorem make_blk (ps : List Int) (n : Int) (hn : ps.length ≤ 1048576) (w : World) : (Instr.makeSlice 60 (.int .i64 (ps.length : Int)) (.int .i64 (ps.length : Int))).run Tryz.prog w = .ok (.slice (some ⟨w.heap.size, 0, none⟩) ps.length ps.length) (w.alloc (.cells (wcur zCell (bCell ps n) (ps.length * 2) (ps.length * 2)) 67)) := by
  obtain ⟨i, hi, hz, hs, hb⟩ := infoB
  have h := run_makeSlice (P := Tryz.prog) w 60 67 i _ Tryz.underlying60 hi hz .i64 .i64 (ps.length : Int) (ps.length : Int) (by omega) (by omega) (by rw [hs]; omega) (by rw [hb]; omega) (by omega)
  rw [hs, show ((ps.length : Int)).toNat = ps.length by omega] at h
  rw [h, ← made_blk ps n (ps.length * 2)]
  rfl
theorem own_blk (ps : List Int) (n : Int) (w : World) (hn : ps.length ≤ 1048576) : (w.alloc (.cells (wcur zCell (bCell ps n) (ps.length * 2) 0) 67)).ownsRow w.heap.size 67 2 (.slice (some ⟨w.heap.size, 0, none⟩) (zipN ps n).length ps.length) (zipN ps n).length (dNews (zipN ps n)) := by
  refine ⟨by rw [dNews_len], Or.inr ⟨w.heap.size, ps.length, wcur zCell (bCell ps n) (ps.length * 2) 0, rfl, Nat.le_refl _, heap_alloc_new _ _, by rw [zipN_len]; exact Nat.le_refl _, by unfold maxLen; omega, by rw [wcur_size], ?_⟩⟩
  rw [zipN_len, blk_done, List.take_of_length_le (by rw [dNews_len, zipN_len]; exact Nat.le_refl _)]
/-- An answer of Blocks. -/
def BlkP (E : Int) (l : List Rel) (w : World) (e : Ending) (w' : World) : Prop :=
  ∃ (A : Option Addr) (c : Nat), e = .returned (.tuple #[.slice A l.length c, .int .i64 E]) ∧ w'.ownsRow w.heap.size 67 2 (.slice A l.length c) l.length (dNews l) ∧ Below w.heap.size w w'
def outB (text : List Int) (ml : Nat) (ent : Int) : List Rel := if (checkI text ml ent).1 = 0 then blkL text ent else []



end Go.Proofs.YtfnicgihpelhhaaGreat

namespace Go.Proofs.YtfnicgihpelhhaaGreat
open Go.RowKit

set_option maxRecDepth 100000 in
set_option maxHeartbeats 2000000 in
theorem marklabels_any (A1 A2 : Option Addr) (c1 ml c2 : Nat) (ent : Int) (text : List Int) (b n : Nat) (f : Int → Bool) (w : World) (hT : IntsAt w A1 .u32 text) (hR : ∀ i, i < text.length → 0 ≤ nth text i ∧ nth text i < 4294967296) (hl : text.length ≤ 1048576) (he0 : 0 ≤ ent) (he1 : ent ≤ 1048576) (hk : Mks w b n f) (hn : n ≤ 1000000000) :
    Calls Tryz.prog 70 #[.agg #[.slice A1 text.length c1, .int .i64 ent, .slice A2 ml c2], .map (some b)] w (MkP b (n + 1 + text.length) (addK (setF f ent) (gLab text) text.length) w) := by
  obtain ⟨W, HW⟩ : ∃ W, Hid (w.alloc (.cells #[.slice A1 text.length c1, .int .i64 ent, .slice A2 ml c2] 25) = W) := ⟨_, rfl⟩
  have HB : Hid (Below w.heap.size w W) := by unfold Hid; rw [← HW.out]; exact lb_alloc (Below.refl _ _) _
  have i0 : W.cell? ⟨w.heap.size, 0, none⟩ = some (.slice A1 text.length c1) := by rw [← HW.out]; simp [go_sem]
  have i1 : W.cell? ⟨w.heap.size, 1, none⟩ = some (.int .i64 ent) := by rw [← HW.out]; simp [go_sem]
  have HT : Hid (IntsAt w A1 .u32 text) := hT
  have HK0 : Hid (Mks w b n f) := hk
  have HKW : Hid (Mks W b n f) := hk.keep HB.out
  have HR : Hid _ := hR
  clear hT hk hR
  go_enter Tryz.func70, Tryz.ntmps70
  go_upto_region 1 with fail
  rw [HW.out]
  clear HW
  go_wp2_with fail
  refine (mark_any b n f ent W HKW.out (by omega) (by omega) (by omega)).mono ?_
  rintro e w1 ⟨rfl, hk1, hg1⟩
  have j0 := HKW.out.cell hg1 i0
  have HK1 : Hid (Mks w1 b (n + 1) (addK (setF f ent) (gLab text) 0)) := hk1.fit fun y => (addK_zero _ _ y).symm
  have HG1 : Hid (w.grownBy w1 (some b)) := (grown_of HB.out).trans hg1
  clear i0 i1 hk1 hg1
  go_wp2
  go_loopw [15] (fun i wr => ∃ (k m : Nat), i = .int .i64 k ∧ k ≤ text.length ∧ m ≤ n + 1 + k ∧ Hid (Mks wr b m (addK (setF f ent) (gLab text) k)) ∧ Hid (w.grownBy wr (some b))) (fun i _ => text.length - (intOf i).toNat)
  case atStart => exact ⟨0, n + 1, rfl, Nat.zero_le _, Nat.le_refl _, HK1, HG1⟩
  case round =>
    clear HK1 HG1 j0
    obtain ⟨k, m, rfl, hk, hm, HK, HG⟩ := hrel
    by_cases hlt : k < text.length
    · obtain ⟨a, rfl, q⟩ := (HK0.out.ints HG.out HT.out) k hlt
      obtain ⟨hv0, hv1⟩ := HR.out k hlt
      have C := isatarget_any (nth text k) hv0 hv1 wr
      have HY : Hid (isT (nth text k) = true → gLab text k = some (tgV (nth text k)) ∧ 0 ≤ tgV (nth text k) ∧ tgV (nth text k) < 16384) := fun h => ⟨gLab_yes h, tg_pos h⟩
      have HN : Hid (isT (nth text k) = false → gLab text k = none) := gLab_no
      generalize nth text k = v at *
      generalize isT v = t at *
      generalize tgV v = z at *
      cases t with
      | false =>
        have HG0 : Hid (gLab text k = none) := HN.out rfl
        clear HY HN
        go_wp2_with (go_at_call 58; refine C.mono ?_; rintro e w2 ⟨rfl, hb2⟩)
        go_roundw
        case rel => exact ⟨k + 1, m, by go_num, by omega, by omega, (HK.out.keep hb2).fit (addK_none HG0.out), grown_on HG.out hb2⟩
        case measure => simp [intOf]; omega
      | true =>
        obtain ⟨hg, hz0, hz1⟩ := HY.out rfl
        have HG0 : Hid (gLab text k = some z) := hg
        clear HY HN hg
        go_wp2_with (first
          | (go_at_call 58; refine C.mono ?_; rintro e w2 ⟨rfl, hb2⟩)
          | (go_at_call 69; refine (mark_any b m _ z _ (HK.out.keep hb2) (by omega) (by omega) (by omega)).mono ?_; rintro e w3 ⟨rfl, hk3, hg3⟩))
        go_roundw
        case rel => exact ⟨k + 1, m + 1, by go_num, by omega, by omega, hk3.fit (addK_some HG0.out), (grown_on HG.out hb2).trans hg3⟩
        case measure => simp [intOf]; omega
    · obtain rfl : k = text.length := by omega
      go_wp2
      refine bodyPost_end (v := .tuple #[]) (by simp [results, Tryz.results70, go_sem]) rfl ?_
      exact ⟨rfl, HK.out.more hm, HG.out⟩



end Go.Proofs.YtfnicgihpelhhaaGreat

namespace Go.Proofs.YtfnicgihpelhhaaGreat
open Go.RowKit

set_option maxRecDepth 100000 in
set_option maxHeartbeats 2000000 in
theorem markbegins_any (A1 A2 : Option Addr) (c1 ml c2 : Nat) (ent : Int) (text : List Int) (b n : Nat) (f : Int → Bool) (w : World) (hT : IntsAt w A1 .u32 text) (hR : ∀ i, i < text.length → 0 ≤ nth text i ∧ nth text i < 4294967296) (hl : text.length ≤ 1048576) (he0 : 0 ≤ ent) (he1 : ent ≤ 1048576) (hk : Mks w b n f) (hn : n ≤ 1000000) :
    Calls Tryz.prog 46 #[.agg #[.slice A1 text.length c1, .int .i64 ent, .slice A2 ml c2], .map (some b)] w (MkP b (n + 2 + text.length + text.length) (addK (addK (setF (setF f 0) ent) (gLab text) text.length) (gEnd text) text.length) w) := by
  obtain ⟨W, HW⟩ : ∃ W, Hid (w.alloc (.cells #[.slice A1 text.length c1, .int .i64 ent, .slice A2 ml c2] 25) = W) := ⟨_, rfl⟩
  have HB : Hid (Below w.heap.size w W) := by unfold Hid; rw [← HW.out]; exact lb_alloc (Below.refl _ _) _
  have i0 : W.cell? ⟨w.heap.size, 0, none⟩ = some (.slice A1 text.length c1) := by rw [← HW.out]; simp [go_sem]
  have i1 : W.cell? ⟨w.heap.size, 1, none⟩ = some (.int .i64 ent) := by rw [← HW.out]; simp [go_sem]
  have i2 : W.cell? ⟨w.heap.size, 2, none⟩ = some (.slice A2 ml c2) := by rw [← HW.out]; simp [go_sem]
  have HT : Hid (IntsAt w A1 .u32 text) := hT
  have HK0 : Hid (Mks w b n f) := hk
  have HKW : Hid (Mks W b n f) := hk.keep HB.out
  have HR : Hid _ := hR
  clear hT hk hR
  go_enter Tryz.func46, Tryz.ntmps46
  go_upto_region 1 with fail
  rw [HW.out]
  clear HW
  go_wp2_with fail
  refine (mark_any b n f 0 W HKW.out (by omega) (by omega) (by omega)).mono ?_
  rintro e w1 ⟨rfl, hk1, hg1⟩
  have j0 := HKW.out.cell hg1 i0
  have j1 := HKW.out.cell hg1 i1
  have j2 := HKW.out.cell hg1 i2
  have HK1 : Hid (Mks w1 b (n + 1) (setF f 0)) := hk1
  have HG1 : Hid (w.grownBy w1 (some b)) := (grown_of HB.out).trans hg1
  clear i0 i1 i2 hk1 hg1
  go_wp2_with fail
  refine (marklabels_any A1 A2 c1 ml c2 ent text b (n + 1) (setF f 0) w1 (HK0.out.ints HG1.out HT.out) HR.out hl he0 he1 HK1.out (by omega)).mono ?_
  rintro e w2 ⟨rfl, hk2, hg2⟩
  have k0 := HK1.out.cell hg2 j0
  have HK2 : Hid (Mks w2 b (n + 1 + 1 + text.length) (addK (addK (setF (setF f 0) ent) (gLab text) text.length) (gEnd text) 0)) := hk2.fit fun y => (addK_zero _ _ y).symm
  have HG2 : Hid (w.grownBy w2 (some b)) := HG1.out.trans hg2
  clear j0 j1 j2 hk2 hg2 HK1 HG1
  go_wp2
  go_loopw [14] (fun i wr => ∃ (k m : Nat), i = .int .i64 k ∧ k ≤ text.length ∧ m ≤ n + 2 + text.length + k ∧ Hid (Mks wr b m (addK (addK (setF (setF f 0) ent) (gLab text) text.length) (gEnd text) k)) ∧ Hid (w.grownBy wr (some b))) (fun i _ => text.length - (intOf i).toNat)
  case atStart => exact ⟨0, n + 1 + 1 + text.length, rfl, Nat.zero_le _, by omega, HK2, HG2⟩
  case round =>
    clear HK2 HG2 k0
    obtain ⟨k, m, rfl, hk, hm, HK, HG⟩ := hrel
    by_cases hlt : k < text.length
    · obtain ⟨a, rfl, q⟩ := (HK0.out.ints HG.out HT.out) k hlt
      obtain ⟨hv0, hv1⟩ := HR.out k hlt
      have C := isaends_any (nth text k) hv0 hv1 wr
      have HY : Hid (endsB (dOp (nth text k)) = true → gEnd text k = some ((k : Int) + 1)) := gEnd_yes
      have HN : Hid (endsB (dOp (nth text k)) = false → gEnd text k = none) := gEnd_no
      generalize nth text k = v at *
      generalize endsB (dOp v) = t at *
      cases t with
      | false =>
        have HG0 : Hid (gEnd text k = none) := HN.out rfl
        clear HY HN
        go_wp2_with (go_at_call 71; refine C.mono ?_; rintro e w2 ⟨rfl, hb2⟩)
        go_roundw
        case rel => exact ⟨k + 1, m, by go_num, by omega, by omega, (HK.out.keep hb2).fit (addK_none HG0.out), grown_on HG.out hb2⟩
        case measure => simp [intOf]; omega
      | true =>
        have HG0 : Hid (gEnd text k = some ((k : Int) + 1)) := HY.out rfl
        clear HY HN
        go_wp2_with (first
          | (go_at_call 71; refine C.mono ?_; rintro e w2 ⟨rfl, hb2⟩)
          | (go_at_call 69; refine (mark_any b m _ ((k : Int) + 1) _ (HK.out.keep hb2) (by omega) (by omega) (by omega)).mono ?_; rintro e w3 ⟨rfl, hk3, hg3⟩))
        go_roundw
        case rel => exact ⟨k + 1, m + 1, by go_num, by omega, by omega, hk3.fit (addK_some HG0.out), (grown_on HG.out hb2).trans hg3⟩
        case measure => simp [intOf]; omega
    · obtain rfl : k = text.length := by omega
      go_wp2
      refine bodyPost_end (v := .tuple #[]) (by simp [results, Tryz.results46, go_sem]) rfl ?_
      exact ⟨rfl, HK.out.more hm, HG.out⟩



end Go.Proofs.YtfnicgihpelhhaaGreat
