/-
  A row of cells and a map are not one; new blocks. Where blocks end, of each place. Whether the fields of an instruction may be: allow of package isa, for every op that there is; no other condition.
-/
import Derived.Test.YtokhclindfipbaaProg
import Derived.WalkKit
import Derived.WalkSpells
import Derived.WalkLawsBesides
import Derived.RowKit3
import Derived.Below
import Derived.Deep.QuietTactic
import Derived.BigQuiet
import Derived.WalkSmall
import Derived.Laws.Rows
import Derived.Test.YtokhclindfipbaaPr28
import Derived.Test.YtokhclindfipbaaPr24
import Derived.Test.YtokhclindfipbaaPr25
import Derived.Test.YtokhclindfipbaaPr27
import Derived.OwnWalk
import Derived.Test.YtokhclindfipbaaPr08
namespace Go.Proofs.Ytokhclindfipbaa
open Go.RowKit

theorem newAtK {w : World} {o : Obj} {n : Nat} (h : n = w.heap.size) : (w.alloc o).heap[n]? = some o := by subst h; exact heap_alloc_new w o
theorem Mks.notrow {w : World} {b n : Nat} {f : Int → Bool} (h : Mks w b n f) {base : Nat} {e : TypeId} {sz : Nat} {v : Value} {m : Nat} {xs : List Value} (hr : w.ownsRow base e sz v m xs) : some b ≠ v.ownBlock := by
  obtain ⟨D, ⟨es, clock, h1, h2⟩, h3⟩ := h
  rcases hr.2 with ⟨rfl, _⟩ | ⟨g, cap, cur, rfl, _, hg2, _⟩
  · intro e; cases e
  · intro e
    cases e
    rw [h1] at hg2
    cases hg2


end Go.Proofs.Ytokhclindfipbaa

namespace Go.Proofs.Ytokhclindfipbaa
open Go.RowKit

/-- The ends of the first so many places. -/
def enP (f : Int → Bool) (n p : Nat) : List Int := (List.range p).map fun k => ((enK f n k : Nat) : Int)
theorem enP_len (f : Int → Bool) (n p : Nat) : (enP f n p).length = p := by simp [enP]
theorem enP_all (f : Int → Bool) (nm : List Int) : enP f nm.length nm.length = enZ nm (enK f nm.length) := rfl
theorem enP_block {f : Int → Bool} {n j : Nat} (hj : j < (plcT f n).length) : iVals .i64 (enP f n (bdN f n j)) ++ rowC (bdN f n (j + 1) - bdN f n j) (fun _ => ((bdN f n (j + 1) : Nat) : Int)) = iVals .i64 (enP f n (bdN f n (j + 1))) := by
  have hr := bdN_rise hj
  obtain ⟨m, hm⟩ : ∃ m, m = bdN f n (j + 1) - bdN f n j := ⟨_, rfl⟩
  have e : enP f n (bdN f n (j + 1)) = enP f n (bdN f n j) ++ (List.range m).map fun _ => ((bdN f n (j + 1) : Nat) : Int) := by
    unfold enP
    rw [show List.range (bdN f n (j + 1)) = List.range (bdN f n j + m) by rw [hm, Nat.add_sub_cancel' (Nat.le_of_lt hr)], List.range_add, List.map_append, List.map_map]
    congr 1
    refine List.map_congr_left fun k hk => ?_
    have hk := List.mem_range.1 hk
    show ((enK f n (bdN f n j + k) : Nat) : Int) = _
    rw [enK_in hj (by omega) (by omega)]
  rw [← hm, e]
  unfold iVals rowC
  rw [List.map_append, List.map_map]
  rfl
theorem cut_max (g N c : Nat) (h : N ≤ c) (w : World) : (Instr.slice 34 (.slice (some ⟨g, 0, none⟩) N c) none (some (.int .i64 (N : Int))) (some (.int .i64 (N : Int)))).run Try.prog w = .ok (.slice (some ⟨g, 0, none⟩) N N) w := by
  rw [run_slice_hm (P := Try.prog) w 34 (some ⟨g, 0, none⟩) N c (by kernel_rfl) .i64 .i64 (N : Int) (N : Int) (by omega) (by omega) (by omega)]
  rw [show (sizeOf (Try.prog.elem 34)).run Try.prog w = .ok 1 w by kernel_rfl]
  show Result.ok (sliced (some ⟨g, 0, none⟩) 0 (N : Int).toNat (N : Int).toNat 1) w = _
  unfold sliced
  rw [show ((N : Int)).toNat = N by omega]
  simp [Addr.add]
theorem rowC_one {m : Nat} {v : Int} : ∀ u ∈ rowC m (fun _ => v), u.oneCell' = true := fun u hu => by
  obtain ⟨j, _, rfl⟩ := List.mem_map.1 hu
  rfl
theorem rowC_news {w : World} {g m : Nat} {v : Int} (h : RwN w g m (fun _ => v)) : ∀ j u, (rowC m (fun _ => v))[j]? = some u → w.cell? ((⟨g, 0, none⟩ : Addr).add j) = some u := fun j u hu => World.news_of_block h j u hu
def EndP (n : Nat) (L : List Int) (w : World) (e : Ending) (w' : World) : Prop := ∃ (E : Option Addr) (c : Nat), e = .returned (.slice E n c) ∧ IntsAt w' E .i64 L ∧ (∀ a, E = some a → w.heap.size ≤ a.block) ∧ Below w.heap.size w w'
set_option maxRecDepth 100000 in
set_option maxHeartbeats 8000000 in
theorem ends_any (A : Option Addr) (ca : Nat) (f : Int → Bool) (n : Nat) (w : World) (hA : RelsAt w A (blkN f n)) (h0 : f 0 = true) (hn0 : 0 < n) (hn : n ≤ 16384) :
    Calls Try.prog 42 #[.slice A (blkN f n).length ca] w (EndP n (enP f n n) w) := by
  have HA : Hid (RelsAt w A (blkN f n)) := hA
  have HZ : Hid (bdN f n 0 = 0) := bdN_zero h0
  have HN0 : Hid (0 < n) := hn0
  have hpl : (plcT f n).length ≤ n := plcT_len f n
  have HL : Hid ((blkN f n).length = (plcT f n).length) := blkN_len
  obtain ⟨iI, hi, hz0, hz1, hz2⟩ := infoI3
  obtain ⟨q, hq⟩ : ∃ q, q = (blkN f n).length := ⟨_, rfl⟩
  have HQ : Hid (q = (plcT f n).length) := hq.trans HL.out
  rw [← hq]
  have hq1 : q ≤ 16384 := by have := HQ.out; omega
  clear hA h0 hn0 hpl hq HL
  go_enter Try.func42, Try.ntmps42
  go_wp2
  go_loopw [3, 8] (fun v i wr => ∃ (j p c : Nat) (O : Option Addr), i = .int .i64 (j : Int) ∧ v = .slice O p c ∧ j ≤ q ∧ Hid (p = bdN f n j) ∧ p ≤ n ∧ Hid (wr.ownsRow w.heap.size 3 1 (.slice O p c) p (iVals .i64 (enP f n p))) ∧ Hid (Below w.heap.size w wr)) (fun _ i _ => q - (intOf i).toNat)
  case atStart => exact ⟨0, 0, 0, none, rfl, rfl, Nat.zero_le _, HZ.out.symm, Nat.zero_le _, World.ownsRow_nil _ _ _ _, Below.refl _ _⟩
  case round =>
    clear HZ
    obtain ⟨j, p, c, O, rfl, rfl, hj, HP, hpn, HRw, HBr⟩ := hrel
    by_cases hlt : j < q
    · have hjp : j < (plcT f n).length := by have := HQ.out; omega
      have hlt' : (j : Int) < (q : Int) := by omega
      have hj0 : (0 : Int) ≤ (j : Int) := by omega
      obtain ⟨a, ea, x0, x1⟩ := (HA.out.keep HBr.out) j (by rw [blkN_len]; exact hjp)
      subst ea
      rw [bd_from hjp, ← HP.out] at x0
      rw [bd_to hjp] at x1
      have hEB := enP_block (f := f) (n := n) hjp
      rw [← HP.out] at hEB
      have hri := bdN_rise hjp
      rw [← HP.out] at hri
      have hle := bdN_le f n (j + 1)
      obtain ⟨t, ht⟩ : ∃ t, t = bdN f n (j + 1) := ⟨_, rfl⟩
      rw [← ht] at x1 hEB hri hle
      have HT : Hid (t = bdN f n (j + 1)) := ht
      have HEB : Hid _ := hEB
      obtain ⟨m, hm⟩ : ∃ m, m = t - p := ⟨_, rfl⟩
      rw [← hm] at HEB
      have HM : Hid (p + m = t) := by unfold Hid; omega
      have hm1 : 1 ≤ m := by omega
      have hm2 : m ≤ 16384 := by omega
      have hpm : p + m ≤ 16384 := by omega
      have hsub : (t : Int) - (p : Int) = (m : Int) := by omega
      obtain ⟨Y, hY⟩ : ∃ Y, (wr.alloc (.cells #[.int .i64 (p : Int), .int .i64 (t : Int)] 43)).alloc (.cells #[.int .i64 (t : Int)] 3) = Y := ⟨_, rfl⟩
      have HBY : Hid (Below wr.heap.size wr Y) := by unfold Hid; rw [← hY]; exact lb_alloc (lb_alloc (Below.refl _ _) _) _
      have CR := repeat_any (wr.heap.size + 1) (t : Int) m hm1 (by omega) Y (by rw [← hY]; simp [go_sem])
      have hYs : wr.heap.size ≤ Y.heap.size := HBY.out.size
      have HRY : Hid (Y.ownsRow w.heap.size 3 1 (.slice O p c) p (iVals .i64 (enP f n p))) := row_keep HRw.out HBY.out
      have HY : Hid _ := hY
      have x1' : wr.cell? ⟨(a.add (j * 2)).block, (a.add (j * 2)).off + 1, none⟩ = some (.int .i64 (t : Int)) := x1
      clear hEB ht hm hri hle hjp hY x1
      go_upto_region 5 with fail
      go_wp2_with fail
      rw [HY.out]
      refine CR.mono ?_
      rintro e w5 ⟨g, rfl, hg, hr5, hb5⟩
      have HB5 : Hid (Below w.heap.size w w5) := lb_trans (lb_trans HBr.out HBY.out) hb5
      have HR5 : Hid (w5.ownsRow w.heap.size 3 1 (.slice O p c) p (iVals .i64 (enP f n p))) := row_keep HRY.out hb5
      have HC5 : Hid (RwN w5 g m (fun _ => (t : Int))) := hr5
      clear hr5 hb5 CR HRY HY HBY x0 x1' hg
      go_upto_region 6 with (at_builtin; go_loud (refine wpList_append_own _ rfl (.tmp 12) (.tmp 21) 34 rfl w.heap.size 3 iI (.int .i64 0) 1 8 Try.underlying34 hi hz0 hz1 hz2 rfl (by decide) (.slice O p c) p (iVals .i64 (enP f n p)) rfl HR5.out ⟨g, 0, none⟩ m m (rowC m (fun _ => (t : Int))) rfl (by rw [rowC_len, Nat.mul_one]) (rowC_news HC5.out) rowC_one (by unfold maxLen; omega) (by omega) HB5.out.size ?_; intro v3 w6 hown hgrow _; have HR6 : Hid (w6.ownsRow w.heap.size 3 1 v3 t (iVals .i64 (enP f n t))) := (by have h9 := hown; rw [HEB.out, HM.out] at h9; exact h9); have HB6 : Hid (Below w.heap.size w w6) := HB5.out.grown hgrow HB5.out.size (fun b hb => (HR5.out.lt b hb).1); clear hown hgrow))
      obtain ⟨A5, c5, e5⟩ := own_sl HR6.out
      subst e5
      go_wp2
      go_roundw
      case rel => exact ⟨j + 1, t, c5, A5, by go_num, rfl, by omega, HT, by have := bdN_le f n (j + 1); have := HT.out; omega, HR6, HB6⟩
      case measure => simp [intOf]; omega
    · obtain rfl : j = q := by omega
      have hlt' : ¬ (j : Int) < (j : Int) := by omega
      obtain rfl : p = n := by rw [HP.out, HQ.out, bdN_end]
      obtain ⟨g, cap, cur, ev, hbg, hg, hnc⟩ : ∃ (g cap : Nat) (cur : Array Value), O = some ⟨g, 0, none⟩ ∧ p ≤ c ∧ w.heap.size ≤ g ∧ cap = cap := by
        rcases HRw.out.2 with ⟨e1, _⟩ | ⟨g, cap, cur, e1, e2, e3, e4, _⟩
        · injection e1 with _ e1 _
          have := HN0.out
          omega
        · injection e1 with e1 _ e5
          exact ⟨g, cap, cur, e1, by omega, e2, rfl⟩
      subst ev
      have hcm := cut_max g p c hbg
      have HI : Hid (IntsAt wr (some ⟨g, 0, none⟩) .i64 (enP f p p)) := row_ints (c := c) (n := p) (by rw [enP_len]; exact HRw.out)
      go_wp2
      go_ret
      exact ⟨_, _, rfl, HI.out, fun a ha => by cases ha; exact hg, HBr.out⟩

end Go.Proofs.Ytokhclindfipbaa

namespace Go.Proofs.Ytokhclindfipbaa
open Go.RowKit


set_option maxRecDepth 100000 in
set_option maxHeartbeats 1000000 in
theorem allow_of (f x d a b n lo hi : Int) (rd ra rb : Bool) (w : World)
    (CR : ∀ wx : World, Calls Try.prog 91 #[.int .u8 f] wx fun e w' => e = .returned (.tuple #[.int .i64 lo, .int .i64 hi]) ∧ w' = wx)
    (C1 : ∀ wx : World, Calls Try.prog 92 #[.int .u8 f, .int .u8 1, .int .i8 d] wx fun e w' => e = .returned (.bool rd) ∧ w' = wx)
    (C2 : ∀ wx : World, Calls Try.prog 92 #[.int .u8 f, .int .u8 2, .int .i8 a] wx fun e w' => e = .returned (.bool ra) ∧ w' = wx)
    (C4 : ∀ wx : World, Calls Try.prog 92 #[.int .u8 f, .int .u8 4, .int .i8 b] wx fun e w' => e = .returned (.bool rb) ∧ w' = wx) :
    Calls Try.prog 74 #[.int .u8 f, .agg #[.int .i8 x, .int .i8 d, .int .i8 a, .int .i8 b, .int .i64 n]] w fun e w' => e = .returned (.bool (rd && ra && rb && (decide (lo ≤ n) && decide (n ≤ hi)))) ∧ w' = w.alloc (.cells #[.int .i8 x, .int .i8 d, .int .i8 a, .int .i8 b, .int .i64 n] 51) := by
  cases rd with
  | false =>
    go_enter Try.func74, Try.ntmps74
    go_wp2_with fail
    refine (CR _).mono ?_
    rintro e w1 ⟨rfl, rfl⟩
    go_wp2_with fail
    refine (C1 _).mono ?_
    rintro e w1 ⟨rfl, rfl⟩
    go_wp2
    go_ret
    exact ⟨by first | rfl | (simp [*]; done) | (simp [*]; omega), rfl⟩
  | true =>
  cases ra with
  | false =>
    go_enter Try.func74, Try.ntmps74
    go_wp2_with fail
    refine (CR _).mono ?_
    rintro e w1 ⟨rfl, rfl⟩
    go_wp2_with fail
    refine (C1 _).mono ?_
    rintro e w1 ⟨rfl, rfl⟩
    go_wp2_with fail
    refine (C2 _).mono ?_
    rintro e w1 ⟨rfl, rfl⟩
    go_wp2
    go_ret
    exact ⟨by first | rfl | (simp [*]; done) | (simp [*]; omega), rfl⟩
  | true =>
  cases rb with
  | false =>
    go_enter Try.func74, Try.ntmps74
    go_wp2_with fail
    refine (CR _).mono ?_
    rintro e w1 ⟨rfl, rfl⟩
    go_wp2_with fail
    refine (C1 _).mono ?_
    rintro e w1 ⟨rfl, rfl⟩
    go_wp2_with fail
    refine (C2 _).mono ?_
    rintro e w1 ⟨rfl, rfl⟩
    go_wp2_with fail
    refine (C4 _).mono ?_
    rintro e w1 ⟨rfl, rfl⟩
    go_wp2
    go_ret
    exact ⟨by first | rfl | (simp [*]; done) | (simp [*]; omega), rfl⟩
  | true =>
  by_cases hl : lo ≤ n
  · go_enter Try.func74, Try.ntmps74
    go_wp2_with fail
    refine (CR _).mono ?_
    rintro e w1 ⟨rfl, rfl⟩
    go_wp2_with fail
    refine (C1 _).mono ?_
    rintro e w1 ⟨rfl, rfl⟩
    go_wp2_with fail
    refine (C2 _).mono ?_
    rintro e w1 ⟨rfl, rfl⟩
    go_wp2_with fail
    refine (C4 _).mono ?_
    rintro e w1 ⟨rfl, rfl⟩
    go_wp2
    go_ret
    exact ⟨by first | rfl | (simp [*]; done) | (simp [*]; omega), rfl⟩
  · go_enter Try.func74, Try.ntmps74
    go_wp2_with fail
    refine (CR _).mono ?_
    rintro e w1 ⟨rfl, rfl⟩
    go_wp2_with fail
    refine (C1 _).mono ?_
    rintro e w1 ⟨rfl, rfl⟩
    go_wp2_with fail
    refine (C2 _).mono ?_
    rintro e w1 ⟨rfl, rfl⟩
    go_wp2_with fail
    refine (C4 _).mono ?_
    rintro e w1 ⟨rfl, rfl⟩
    go_wp2
    go_ret
    exact ⟨by first | rfl | (simp [*]; done) | (simp [*]; omega), rfl⟩

theorem allow_any (op x d a b n : Int) (h0 : 0 ≤ op) (h1 : op ≤ 21) (w : World) : Calls Try.prog 74 #[.int .u8 (sh op), .agg #[.int .i8 x, .int .i8 d, .int .i8 a, .int .i8 b, .int .i64 n]] w fun e w' => e = .returned (.bool (insOK op d a b n)) ∧ w' = w.alloc (.cells #[.int .i8 x, .int .i8 d, .int .i8 a, .int .i8 b, .int .i64 n] 51) := by
  obtain ⟨b1, b2, b4, b8, b16⟩ := sh_bits op h0 h1
  have h := allow_of (sh op) x d a b n _ _ _ _ _ w (frange_any (sh op) _ _ b8 b16) (fregister_any (sh op) 1 d _ b1) (fregister_any (sh op) 2 a _ b2) (fregister_any (sh op) 4 b _ b4)
  rw [num_lohi _ _ (hP_hN op)] at h
  exact h








end Go.Proofs.Ytokhclindfipbaa
