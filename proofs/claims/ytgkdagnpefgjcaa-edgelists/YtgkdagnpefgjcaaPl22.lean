/-
  A list of lists that is written over; no Go in sight. Back of package edge, by what it answers; at most 65536 lists, each of at most 65536 numbers. Lists that rise, each number once; no Go in sight.
-/
import Derived.Test.YtgkdagnpefgjcaaProg
import Derived.WalkKit
import Derived.WalkSpells
import Derived.WalkLawsBesides
import Derived.RowKit3
import Derived.Below
import Derived.Deep.QuietTactic
import Derived.BigQuiet
import Derived.WalkSmall
import Derived.Laws.Rows
import Derived.Test.YtgkdagnpefgjcaaPl19
import Derived.Test.YtgkdagnpefgjcaaPl21
import Derived.Test.YtgkdagnpefgjcaaPl13
import Derived.Test.YtgkdagnpefgjcaaPl15
import Derived.Test.YtgkdagnpefgjcaaPl17
import Derived.WalkMore
import Derived.Test.YtgkdagnpefgjcaaPl04
import Derived.Lib.SlicesCompact
import Derived.Lib.RowBridge
namespace Go.Proofs.Ytgkdagnpefgjcaa
open Go.RowKit

theorem vn_set {vs : List Value} {i t : Nat} {v : Value} (ht : t < vs.length) : vn (vs.set i v) t = if i = t then v else vn vs t := by
  unfold vn
  rw [List.getD_eq_getElem?_getD, List.getElem?_set, List.getD_eq_getElem?_getD]
  by_cases e : i = t
  · rw [if_pos e, if_pos e, if_pos (by omega)]; rfl
  · rw [if_neg e, if_neg e]
theorem blk_off {w : World} {b : Nat} {e e2 : TypeId} {sz n : Nat} {v : Value} {xs : List Value} {g : Nat} {cs : Array Value} (h : w.ownsRow b e sz v n xs) (hg : w.heap[g]? = some (.cells cs e2 (0, 0))) (hne : e ≠ e2) : v.ownBlock ≠ some g := by
  rcases h.2 with ⟨rfl, _⟩ | ⟨k, cap, cur, rfl, _, hk, _⟩
  · intro e; cases e
  · intro e
    cases e
    rw [hk] at hg
    injection hg with hg
    injection hg with _ hh
    exact hne hh
/-- A list of lists in the block g, each list a block of its own behind base. -/
structure RowsW (w : World) (base g n : Nat) (vs : List Value) (M : List (List Int)) : Prop where
  box : w.heap[g]? = some (.cells vs.toArray 43 (0, 0))
  len : vs.length = n
  mlen : M.length = n
  hi : base ≤ g
  big : n ≤ 1048576
  row : ∀ i, i < n → w.ownsRow base 3 1 (vn vs i) (rowZ M i).length (iVals .i64 (rowZ M i))
  apart : ∀ i j, i < n → j < n → i ≠ j → ∀ q, (vn vs i).ownBlock = some q → (vn vs j).ownBlock ≠ some q
theorem RowsW.cell {w : World} {base g n : Nat} {vs : List Value} {M : List (List Int)} (h : RowsW w base g n vs M) {i : Nat} (hi : i < n) : w.cell? ⟨g, i, none⟩ = some (vn vs i) := by
  have hl := h.len
  simp [World.cell?, h.box, vn, List.getD, show i < vs.length by omega]
theorem RowsW.fro {w : World} {base g n : Nat} {vs : List Value} {M : List (List Int)} (h : RowsW w base g n vs M) (i : Nat) : w.frozen? ⟨g, i, none⟩ = false := box_fro h.box i
theorem RowsW.keep {w w1 : World} {base g n : Nat} {vs : List Value} {M : List (List Int)} (h : RowsW w base g n vs M) (hb : Below w.heap.size w w1) : RowsW w1 base g n vs M :=
  ⟨lb_box h.box hb, h.len, h.mlen, h.hi, h.big, fun i hi => row_keep (h.row i hi) hb, h.apart⟩
theorem RowsW.lt {w : World} {base g n : Nat} {vs : List Value} {M : List (List Int)} (h : RowsW w base g n vs M) : g < w.heap.size := (Array.getElem?_eq_some_iff.1 h.box).1
theorem RowsW.made (w : World) (n : Nat) (hn : n ≤ 1048576) : RowsW (w.alloc (.cells (madeCells #[.slice none 0 0] n) 43)) w.heap.size w.heap.size n (List.replicate n (.slice none 0 0)) (List.replicate n []) := by
  have hv : ∀ i, vn (List.replicate n (.slice none 0 0)) i = .slice none 0 0 := fun i => by
    unfold vn
    simp only [List.getD, List.getElem?_replicate]
    split <;> rfl
  have hr : ∀ i, rowZ (List.replicate n []) i = [] := fun i => by
    unfold rowZ
    simp only [List.getD, List.getElem?_replicate]
    split <;> rfl
  refine ⟨?_, by simp, by simp, Nat.le_refl _, hn, fun i _ => ?_, fun i j _ _ _ q hq => ?_⟩
  · rw [heap_alloc_new]
    congr 2
    apply Array.ext_getElem?
    intro i
    by_cases hi : i < n
    · simp [madeCells, hi, Nat.mod_one]
    · rw [Array.getElem?_eq_none (by simp [madeCells]; omega), Array.getElem?_eq_none (by simp; omega)]
  · rw [hv, hr]
    exact World.ownsRow_nil _ _ _ _
  · rw [hv] at hq
    cases hq
/-- One list is another one now. -/
theorem RowsW.put {w w1 : World} {base g n : Nat} {vs : List Value} {M : List (List Int)} (h : RowsW w base g n vs M) {i : Nat} (hi : i < n) {v : Value} {l : List Int} (hv : w1.ownsRow base 3 1 v l.length (iVals .i64 l)) (hg : w.grownBy w1 (vn vs i).ownBlock) (hloc : ∀ q, v.ownBlock = some q → (vn vs i).ownBlock = some q ∨ w.heap.size ≤ q) : RowsW (w1.setCell ⟨g, i, none⟩ v) base g n (vs.set i v) (M.set i l) := by
  have hlen := h.len
  have hml := h.mlen
  have hbox1 : w1.heap[g]? = some (.cells vs.toArray 43 (0, 0)) := by
    rw [hg.block g h.lt (fun e => blk_off (h.row i hi) h.box (by decide) e.symm)]
    exact h.box
  have hoff : ∀ t, t < n → t ≠ i → w1.ownsRow base 3 1 (vn vs t) (rowZ M t).length (iVals .i64 (rowZ M t)) := fun t ht hti => by
    refine (h.row t ht).kept hg ?_
    cases hk : (vn vs t).ownBlock with
    | none => exact .inl rfl
    | some k => exact .inr fun e => h.apart t i ht hi hti k hk e.symm
  refine ⟨?_, by rw [List.length_set]; exact hlen, by rw [List.length_set]; exact hml, h.hi, h.big, fun t ht => ?_, fun t s ht hs hts q hq hq2 => ?_⟩
  · rw [box_set hbox1]
    simp
  · rw [vn_set (by omega), rowZ_set (by omega)]
    by_cases e : i = t
    · rw [if_pos e, if_pos e]
      exact ownsRow_setCell_other hv (blk_off hv hbox1 (by decide)) _
    · rw [if_neg e, if_neg e]
      have h1 := hoff t ht (fun e2 => e e2.symm)
      exact ownsRow_setCell_other h1 (blk_off h1 hbox1 (by decide)) _
  · rw [vn_set (by omega)] at hq hq2
    by_cases e : i = t
    · rw [if_pos e] at hq
      rw [if_neg (by omega)] at hq2
      rcases hloc q hq with h1 | h1
      · exact h.apart s i hs hi (by omega) q hq2 h1
      · have := ((h.row s hs).lt q hq2).2
        omega
    · rw [if_neg e] at hq
      by_cases e2 : i = s
      · rw [if_pos e2] at hq2
        rcases hloc q hq2 with h1 | h1
        · exact h.apart t i ht hi (by omega) q hq h1
        · have := ((h.row t ht).lt q hq).2
          omega
      · rw [if_neg e2] at hq2
        exact h.apart t s ht hs hts q hq hq2
theorem RowsW.grown {w w1 : World} {base g n : Nat} {vs : List Value} {M : List (List Int)} (h : RowsW w base g n vs M) {i : Nat} (hi : i < n) (hg : w.grownBy w1 (vn vs i).ownBlock) : w1.cell? ⟨g, i, none⟩ = some (vn vs i) ∧ w1.frozen? ⟨g, i, none⟩ = false := by
  have hb : w1.heap[g]? = some (.cells vs.toArray 43 (0, 0)) := by
    rw [hg.block g h.lt (fun e => blk_off (h.row i hi) h.box (by decide) e.symm)]
    exact h.box
  have hl := h.len
  exact ⟨by simp [World.cell?, hb, vn, List.getD, show i < vs.length by omega], box_fro hb i⟩
theorem RowsW.rows {w : World} {base g n : Nat} {vs : List Value} {M : List (List Int)} (h : RowsW w base g n vs M) : RowsZ w base (.slice (some ⟨g, 0, none⟩) M.length n) vs M := by
  have hl := h.len
  have hm := h.mlen
  have hb := h.big
  refine ⟨⟨by omega, .inr ⟨g, n, vs.toArray, rfl, h.hi, h.box, by omega, by unfold maxLen; omega, by simp; omega, ?_⟩⟩, fun i hi => h.row i (by omega)⟩
  rw [List.take_of_length_le (by simp; omega)]
theorem make_sl (n : Nat) (hn : n ≤ 1048576) (w : World) : (Instr.makeSlice 31 (.int .i64 (n : Int)) (.int .i64 (n : Int))).run Try.prog w = .ok (.slice (some ⟨w.heap.size, 0, none⟩) n n) (w.alloc (.cells (madeCells #[.slice none 0 0] n) 43)) := by
  obtain ⟨i, hi, hz, hs, hb⟩ := infoS
  have h := run_makeSlice (P := Try.prog) w 31 43 i _ Try.underlying31 hi hz .i64 .i64 (n : Int) (n : Int) (by omega) (by omega) (by rw [hs]; omega) (by rw [hb]; omega) (by omega)
  rw [hs, show ((n : Int)).toNat = n by omega, Nat.mul_one] at h
  exact h
theorem RowsW.below {w w1 w2 : World} {base g n : Nat} {vs : List Value} {M : List (List Int)} {B : Nat} (h : RowsW w base g n vs M) {i : Nat} (hi : i < n) (hB : B ≤ base) (hw : Below B w2 w) (hz : B ≤ w.heap.size) (hg : w.grownBy w1 (vn vs i).ownBlock) (v : Value) : Below B w2 (w1.setCell ⟨g, i, none⟩ v) := by
  have h1 : Below B w2 w1 := hw.grown hg hz (fun b hb => Nat.le_trans hB ((h.row i hi).lt b hb).1)
  exact grown_belowR h1 (gset11 _ _ _ _) (Nat.le_trans hB h.hi) (Nat.le_trans hz hg.size)

end Go.Proofs.Ytgkdagnpefgjcaa

namespace Go.Proofs.Ytgkdagnpefgjcaa
open Go.RowKit

set_option maxHeartbeats 1000000 in
theorem endsin_any (R : Option Addr) (k : Nat) (l : List Int) (x : Int) (w : World) (hR : IntsAt w R .i64 l) (hl : l.length ≤ 1048576) :
    Calls Try.prog 29 #[.slice R l.length k, .int .i64 x] w fun e w' => e = .returned (.bool (endZ l x)) ∧ w' = w := by
  by_cases h0 : l.length = 0
  · have HE : Hid (endZ l x = false) := by
      unfold Hid endZ
      rw [decide_eq_false_iff_not]
      omega
    rw [h0]
    clear hR h0
    go_enter Try.func29, Try.ntmps29
    go_wp2
    go_ret
    exact ⟨by rw [HE.out]; rfl, rfl⟩
  · obtain ⟨m, hm⟩ : ∃ m, l.length = m + 1 := ⟨l.length - 1, by omega⟩
    obtain ⟨a, ea, q⟩ := hR m (by omega)
    subst ea
    have HE : Hid (endZ l x = (nth l m == x)) := by
      unfold Hid endZ
      rw [hm, show m + 1 - 1 = m by omega]
      by_cases e : nth l m = x
      · rw [e]; simp
      · rw [decide_eq_false (fun h => e h.2)]
        symm
        rw [beq_eq_false_iff_ne]
        exact e
    rw [hm]
    have hg : (0 : Int) < (m : Int) + 1 := by omega
    have hmb : (m : Int) ≤ 1048576 := by omega
    have hz : (m : Int) + 1 - 1 = (m : Int) := by omega
    clear hR h0 hm
    generalize nth l m = y at *
    go_enter Try.func29, Try.ntmps29
    go_wp2
    all_goals (go_ret; exact ⟨by rw [HE.out]; first | rfl | simp_all, rfl⟩)

set_option maxRecDepth 100000 in
set_option maxHeartbeats 4000000 in
theorem back_any (A : Option Addr) (ca : Nat) (L : List (List Int)) (w : World) (hA : IntsZ w A L) (hn : L.length ≤ 65536) (hr : ∀ i, i < L.length → (rowZ L i).length ≤ 65536) :
    Calls Try.prog 12 #[.slice A L.length ca] w (ZR (backT L L.length) w) := by
  obtain ⟨iI, hi, hz0, hz1, hz2⟩ := infoI
  have HA : Hid (IntsZ w A L) := hA
  have HR : Hid _ := hr
  clear hA hr
  have hmk := make_sl L.length (by omega)
  have HB0 : Hid (Below w.heap.size w (w.alloc (.cells (madeCells #[.slice none 0 0] L.length) 43))) := lb_alloc (Below.refl _ _) _
  have HW0 : Hid (RowsW (w.alloc (.cells (madeCells #[.slice none 0 0] L.length) 43)) w.heap.size w.heap.size L.length (List.replicate L.length (.slice none 0 0)) (bst L 0 0)) := by
    unfold Hid
    rw [bst_zero]
    exact RowsW.made w L.length (by omega)
  go_enter Try.func12, Try.ntmps12
  go_wp2
  go_loopw [13] (fun i wr => ∃ (k : Nat) (vs : List Value), i = .int .i64 k ∧ k ≤ L.length ∧ Hid (RowsW wr w.heap.size w.heap.size L.length vs (bst L k 0)) ∧ Hid (Below w.heap.size w wr)) (fun i _ => L.length - (intOf i).toNat)
  case atStart => exact ⟨0, _, rfl, Nat.zero_le _, HW0, HB0⟩
  case round =>
    clear HW0 HB0 hmk
    obtain ⟨k, vs, rfl, hk, HW, HB⟩ := hrel
    by_cases hlt : k < L.length
    · have hlt' : (k : Int) < (L.length : Int) := by omega
      obtain ⟨a, R, kr, ea, q, qr⟩ := (HA.out.keep HB.out) k hlt
      subst ea
      have hrl := HR.out k hlt
      have HQ : Hid (∀ wx, Below w.heap.size w wx → IntsAt wx R .i64 (rowZ L k)) := fun wx hx => by
        obtain ⟨a2, R2, kr2, ea2, q2, qr2⟩ := (HA.out.keep HB.out) k hlt
        obtain rfl := Option.some.inj ea2
        rw [q] at q2
        cases q2
        obtain ⟨a3, R3, kr3, ea3, q3, qr3⟩ := HA.out k hlt
        obtain rfl := Option.some.inj ea3
        rw [lkeep HB.out q3] at q
        cases q
        exact qr3.keep hx
      clear qr
      go_wp2
      go_loopw [20] (fun i wr => ∃ (j : Nat) (vs : List Value), i = .int .i64 j ∧ j ≤ (rowZ L k).length ∧ Hid (RowsW wr w.heap.size w.heap.size L.length vs (bst L k j)) ∧ Hid (Below w.heap.size w wr)) (fun i _ => (rowZ L k).length - (intOf i).toNat)
      case atStart => exact ⟨0, vs, rfl, Nat.zero_le _, HW, HB⟩
      case round =>
        clear HW HB q
        obtain ⟨j, vs, rfl, hj, HW, HB⟩ := hrel
        by_cases hjl : j < (rowZ L k).length
        · have hjl' : (j : Int) < ((rowZ L k).length : Int) := by omega
          obtain ⟨b, eb, q⟩ := (HQ.out wr HB.out) j hjl
          subst eb
          by_cases hx0 : nth (rowZ L k) j < 0
          · have HS : Hid (bst L k (j + 1) = bst L k j) := bst_skip hjl (.inl hx0)
            have hx0' : ¬ (0 : Int) ≤ nth (rowZ L k) j := by omega
            generalize nth (rowZ L k) j = x at *
            go_wp2
            go_roundw
            case rel => exact ⟨j + 1, vs, by go_num, by omega, by rw [HS.out]; exact HW, HB⟩
            case measure => simp [intOf]; omega
          · by_cases hx1 : (L.length : Int) ≤ nth (rowZ L k) j
            · have HS : Hid (bst L k (j + 1) = bst L k j) := bst_skip hjl (.inr (.inl hx1))
              have hx0' : (0 : Int) ≤ nth (rowZ L k) j := by omega
              have hx1' : ¬ nth (rowZ L k) j < (L.length : Int) := by omega
              generalize nth (rowZ L k) j = x at *
              go_wp2
              go_roundw
              case rel => exact ⟨j + 1, vs, by go_num, by omega, by rw [HS.out]; exact HW, HB⟩
              case measure => simp [intOf]; omega
            · obtain ⟨i, ei⟩ : ∃ i : Nat, nth (rowZ L k) j = (i : Int) := ⟨(nth (rowZ L k) j).toNat, by omega⟩
              have hil : i < L.length := by omega
              have hil' : (i : Int) < (L.length : Int) := by omega
              have hi0 : (0 : Int) ≤ (i : Int) := by omega
              have hrow := HW.out.row i hil
              have hcell := HW.out.cell hil
              have hfro := HW.out.fro i
              obtain ⟨O, c, ev⟩ := own_form hrow
              rw [ev] at hcell hrow
              have hcl := curB_len L k j i
              rw [← bst_row hil] at hcl
              have C := endsin_any O c (rowZ (bst L k j) i) (k : Int) wr (row_ints hrow) (by omega)
              rw [bst_row hil, curB_ends, ← bst_row hil] at C
              by_cases hin : (i : Int) ∈ (rowZ L k).take j
              · have HS : Hid (bst L k (j + 1) = bst L k j) := bst_skip hjl (.inr (.inr (by rw [ei]; exact hin)))
                rw [decide_eq_true hin] at C
                clear hin hrow
                rw [ei] at q
                clear ei hx0 hx1
                generalize (rowZ (bst L k j) i).length = rn at *
                go_wp2_with (go_at_call 29; refine C.mono ?_; rintro e w2 ⟨rfl, rfl⟩)
                go_roundw
                case rel => exact ⟨j + 1, vs, by go_num, by omega, by rw [HS.out]; exact HW, HB⟩
                case measure => simp [intOf]; omega
              · have HS : Hid (bst L k (j + 1) = (bst L k j).set i (rowZ (bst L k j) i ++ [(k : Int)])) := bst_add hjl hil ei hin
                rw [decide_eq_false hin] at C
                rw [ei] at q
                clear ei hx0 hx1 hin
                have HBx : Hid (Below wr.heap.size wr (wr.alloc (.cells #[.int .i64 (k : Int)] 3))) := lb_alloc (Below.refl _ _) _
                have HBa : Hid (Below w.heap.size w (wr.alloc (.cells #[.int .i64 (k : Int)] 3))) := lb_alloc HB.out _
                have HRa : Hid ((wr.alloc (.cells #[.int .i64 (k : Int)] 3)).ownsRow w.heap.size 3 1 (.slice O (rowZ (bst L k j) i).length c) (rowZ (bst L k j) i).length (iVals .i64 (rowZ (bst L k j) i))) := row_keep hrow HBx.out
                have HWa : Hid (RowsW (wr.alloc (.cells #[.int .i64 (k : Int)] 3)) w.heap.size w.heap.size L.length vs (bst L k j)) := HW.out.keep HBx.out
                have HEv : Hid (vn vs i = .slice O (rowZ (bst L k j) i).length c) := ev
                clear hrow ev
                generalize rowZ (bst L k j) i = P at *
                go_upto_region 10 with (first
                  | (go_at_call 29; refine C.mono ?_; rintro e w2 ⟨rfl, rfl⟩)
                  | (at_builtin; go_loud (refine wpList_append_at _ rfl (.tmp 46) (.tmp 48) 43 rfl w.heap.size 3 iI (.int .i64 0) 1 8 Try.underlying43 hi hz0 hz1 hz2 rfl (by decide) (.slice O P.length c) P.length (iVals .i64 P) rfl HRa.out ⟨w2.heap.size, 0, none⟩ 1 1 [.int .i64 (k : Int)] rfl rfl (fun j u hu => World.news_of_block (newAtK rfl) j u hu) one_oneI (by omega) (by unfold maxLen; omega) (by omega) HBa.out.size ?_; intro g3 cap3 w4 hown hgrow hloc; rw [← HEv.out] at hgrow hloc; have HW4 : Hid (RowsW (w4.setCell ⟨w.heap.size, i, none⟩ (.slice (some ⟨g3, 0, none⟩) (P.length + 1) cap3)) w.heap.size w.heap.size L.length (vs.set i (.slice (some ⟨g3, 0, none⟩) (P.length + 1) cap3)) ((bst L k j).set i (P ++ [(k : Int)]))) := HWa.out.put hil (by rw [iVals_snoc, List.length_append]; exact hown) hgrow (fun q hq => by cases hq; exact hloc); have HB4 : Hid (Below w.heap.size w (w4.setCell ⟨w.heap.size, i, none⟩ (.slice (some ⟨g3, 0, none⟩) (P.length + 1) cap3))) := HWa.out.below hil (Nat.le_refl _) HBa.out HBa.out.size hgrow _; have hcf := HWa.out.grown hil hgrow; have hcell4 := hcf.1; have hfro4 := hcf.2; clear hcf; clear hown hgrow hloc)))
                go_wp2
                go_roundw
                case rel => exact ⟨j + 1, _, by go_num, by omega, by rw [HS.out]; exact HW4, HB4⟩
                case measure => simp [intOf]; omega
        · obtain rfl : j = (rowZ L k).length := by omega
          go_wp2
          go_roundw
          case rel => exact ⟨k + 1, vs, by go_num, by omega, by rw [← bst_next]; exact HW, HB⟩
          case measure => simp [intOf]; omega
    · obtain rfl : k = L.length := by omega
      go_wp2
      go_ret
      have h := HW.out
      rw [bst_end] at h
      have h2 := h.rows
      exact ⟨_, _, by rw [h.mlen]; rfl, h2.ints, HB.out⟩
theorem backOK : BackOK := back_any

end Go.Proofs.Ytgkdagnpefgjcaa

namespace Go.Proofs.Ytgkdagnpefgjcaa
open Go.RowKit

/-- Two lists that rise and have the same numbers are one. -/
theorem rise_uniq : ∀ {l m : List Int}, l.Pairwise (· < ·) → m.Pairwise (· < ·) → (∀ y, y ∈ l ↔ y ∈ m) → l = m
  | [], [], _, _, _ => rfl
  | [], b :: m, _, _, h => absurd ((h b).2 (by simp)) (by simp)
  | a :: l, [], _, _, h => absurd ((h a).1 (by simp)) (by simp)
  | a :: l, b :: m, hl, hm, h => by
    rw [List.pairwise_cons] at hl hm
    have hab : a = b := by
      have h1 : a ∈ b :: m := (h a).1 (by simp)
      have h2 : b ∈ a :: l := (h b).2 (by simp)
      rw [List.mem_cons] at h1 h2
      rcases h1 with h1 | h1
      · exact h1
      · rcases h2 with h2 | h2
        · exact h2.symm
        · have := hl.1 b h2
          have := hm.1 a h1
          omega
    subst hab
    congr 1
    refine rise_uniq hl.2 hm.2 fun y => ?_
    constructor
    · intro hy
      have h1 : y ∈ a :: m := (h y).1 (List.mem_cons_of_mem _ hy)
      have h2 := hl.1 y hy
      rw [List.mem_cons] at h1
      rcases h1 with rfl | h1
      · omega
      · exact h1
    · intro hy
      have h1 : y ∈ a :: l := (h y).2 (List.mem_cons_of_mem _ hy)
      have h2 := hm.1 y hy
      rw [List.mem_cons] at h1
      rcases h1 with rfl | h1
      · omega
      · exact h1
theorem plc_pair (f : Int → Bool) (n : Nat) : (plcT f n).Pairwise (· < ·) := by
  unfold plcT
  rw [List.pairwise_map]
  exact (List.pairwise_lt_range.filter _).imp (fun {a b} h => by omega)
theorem plc_uniq {f : Int → Bool} {n : Nat} {l : List Int} (hl : l.Pairwise (· < ·)) (h : ∀ y, y ∈ l ↔ 0 ≤ y ∧ y < n ∧ f y = true) : l = plcT f n :=
  rise_uniq hl (plc_pair f n) fun y => by rw [h y, plcT_mem]
/-- What is left of a list that rises, each number once. -/
theorem compact_rise {zs : List Int} (h : zs.Pairwise (· ≤ ·)) : (Lib.compact zs).Pairwise (· < ·) ∧ ∀ y, y ∈ Lib.compact zs ↔ y ∈ zs := by
  have hget : ∀ i, i < zs.length → zs.toArray[i]! = zs.getD i 0 := fun i hi => by
    simp [List.getD, hi]
  have hle : ∀ i j, i ≤ j → j < zs.length → zs.getD i 0 ≤ zs.getD j 0 := fun i j hij hj => by
    by_cases e : i = j
    · subst e; exact Int.le_refl _
    · rw [List.pairwise_iff_getElem] at h
      have := h i j (by omega) hj (by omega)
      simpa [List.getD, hj, show i < zs.length by omega] using this
  have key : ∀ m, m ≤ zs.length → (Lib.compactUpTo zs.toArray m).Pairwise (· < ·) ∧ (∀ y, y ∈ Lib.compactUpTo zs.toArray m ↔ ∃ i, i < m ∧ zs.getD i 0 = y) := by
    intro m
    induction m with
    | zero => exact fun _ => ⟨by simp [Lib.compactUpTo], fun y => by simp [Lib.compactUpTo]⟩
    | succ m ih =>
      intro hm
      obtain ⟨i1, i2⟩ := ih (by omega)
      rw [Lib.compactUpTo_succ]
      by_cases hk : Lib.keeps zs.toArray m = true
      · rw [if_pos hk, hget m (by omega)]
        constructor
        · rw [List.pairwise_append]
          refine ⟨i1, by simp, fun x hx y hy => ?_⟩
          rw [List.mem_singleton] at hy
          subst hy
          obtain ⟨i, hi, rfl⟩ := (i2 x).1 hx
          unfold Lib.keeps at hk
          rw [decide_eq_true_eq] at hk
          rcases hk with rfl | hk
          · omega
          · rw [hget m (by omega), hget (m - 1) (by omega)] at hk
            have h1 := hle i (m - 1) (by omega) (by omega)
            have h2 := hle (m - 1) m (by omega) (by omega)
            omega
        · intro y
          rw [List.mem_append, i2, List.mem_singleton]
          constructor
          · rintro (⟨i, hi, e⟩ | rfl)
            · exact ⟨i, by omega, e⟩
            · exact ⟨m, by omega, rfl⟩
          · rintro ⟨i, hi, e⟩
            by_cases him : i = m
            · subst him; exact .inr e.symm
            · exact .inl ⟨i, by omega, e⟩
      · have hk' : Lib.keeps zs.toArray m = false := by simpa using hk
        rw [if_neg hk, List.append_nil]
        refine ⟨i1, fun y => ?_⟩
        rw [i2]
        unfold Lib.keeps at hk'
        rw [decide_eq_false_iff_not] at hk'
        have hm0 : m ≠ 0 := fun e => hk' (.inl e)
        have he : zs.getD m 0 = zs.getD (m - 1) 0 := by
          rw [← hget m (by omega), ← hget (m - 1) (by omega)]
          exact Decidable.byContradiction fun e => hk' (.inr e)
        constructor
        · rintro ⟨i, hi, e⟩
          exact ⟨i, by omega, e⟩
        · rintro ⟨i, hi, e⟩
          by_cases him : i = m
          · subst him; exact ⟨i - 1, by omega, by rw [← he]; exact e⟩
          · exact ⟨i, by omega, e⟩
  obtain ⟨k1, k2⟩ := key zs.length (Nat.le_refl _)
  refine ⟨k1, fun y => ?_⟩
  show y ∈ Lib.compactUpTo zs.toArray zs.length ↔ _
  rw [k2, List.mem_iff_getElem]
  constructor
  · rintro ⟨i, hi, e⟩
    exact ⟨i, hi, by simpa [List.getD, hi] using e⟩
  · rintro ⟨i, hi, e⟩
    exact ⟨i, hi, by simpa [List.getD, hi] using e⟩
/-- What rising tells. -/
def risZ (zs : List Int) : List Int := Lib.compact (zs.mergeSort fun x y => decide (x ≤ y))
theorem ris_rise (zs : List Int) : (risZ zs).Pairwise (· < ·) ∧ ∀ y, y ∈ risZ zs ↔ y ∈ zs := by
  have hs : (zs.mergeSort fun x y => decide (x ≤ y)).Pairwise (· ≤ ·) := by
    have := List.pairwise_mergeSort (le := fun x y : Int => decide (x ≤ y)) (fun a b c h1 h2 => by simp at h1 h2 ⊢; omega) (fun a b => by simp; omega) zs
    exact this.imp fun {a b} h => by simpa using h
  obtain ⟨h1, h2⟩ := compact_rise hs
  exact ⟨h1, fun y => by
    show y ∈ Lib.compact _ ↔ _
    rw [h2, List.mem_mergeSort]⟩
theorem ris_plc {zs : List Int} {f : Int → Bool} {n : Nat} (h : ∀ y, y ∈ zs ↔ 0 ≤ y ∧ y < n ∧ f y = true) : risZ zs = plcT f n :=
  plc_uniq (ris_rise zs).1 fun y => by rw [(ris_rise zs).2, h]
theorem ris_len (zs : List Int) : (risZ zs).length ≤ zs.length := by
  unfold risZ
  have h1 := Lib.compact_length_le (zs.mergeSort fun x y => decide (x ≤ y))
  have h2 : (zs.mergeSort fun x y => decide (x ≤ y)).length = zs.length := List.length_mergeSort zs
  omega

end Go.Proofs.Ytgkdagnpefgjcaa
