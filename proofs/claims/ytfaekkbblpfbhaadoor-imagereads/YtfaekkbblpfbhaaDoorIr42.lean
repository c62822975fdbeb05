/-
  Bytes copied, and held against each other, by the statements of the document; they are at most 2^20. The program takes the sum, and looks that nothing is behind it.
-/
import Derived.Test.YtfaekkbblpfbhaaDoorProg
import Derived.WalkKit
import Derived.WalkSpells
import Derived.WalkLawsBesides
import Derived.RowKit3
import Derived.Below
import Derived.Deep.QuietTactic
import Derived.BigQuiet
import Derived.WalkSmall
import Derived.Laws.Rows
import Derived.Test.YtfaekkbblpfbhaaDoorIr41
import Derived.Test.YtfaekkbblpfbhaaDoorIr40
import Derived.Test.YtfaekkbblpfbhaaDoorIr05
import Derived.Test.YtfaekkbblpfbhaaDoorIr08
import Derived.Test.YtfaekkbblpfbhaaDoorIr33
import Derived.Test.YtfaekkbblpfbhaaDoorIr09
namespace Go.Proofs.YtfaekkbblpfbhaaDoor
open Go.RowKit

theorem copybytes_any (O : Option Addr) (ca : Nat) (zs : List Int) (w : World) (hA : IntsAt w O .u8 zs) (h0 : O = none → ca = 0) (hz : zs.length ≤ 1048576) :
    Calls Tryd.prog 26 #[.slice O zs.length ca] w fun e w' => CopyP 5 1 zs.length (iNews .u8 zs) w e w' := by
  obtain ⟨i0, hi, hz0, hz1, hz2⟩ := info5
  cases O with
  | none =>
    obtain rfl := h0 rfl
    have hl : zs.length = 0 := by
      cases zs with
      | nil => rfl
      | cons x t => obtain ⟨a, e, _⟩ := hA 0 (by simp); cases e
    have hn : iNews .u8 zs = [] := by unfold iNews; rw [hl]; rfl
    rw [hl, hn]
    have hr := run_append_owned_none (P := Tryd.prog) (w := w) w.heap.size 32 32 5 i0 1 Tryd.underlying32 hi (.slice none 0 0) 0 [] (World.ownsRow_nil w _ _ _)
    go_enter Tryd.func26, Tryd.ntmps26
    go_wp2
    go_ret
    exact copyP_mk rfl (World.ownsRow_nil w _ _ _) (World.grownBy.refl w _)
  | some a =>
    go_enter Tryd.func26, Tryd.ntmps26
    go_wp2_with (at_builtin; refine wpList_append_own _ rfl (.tmp 4) (.tmp 5) 32 rfl w.heap.size 5 i0 (.int .u8 0) 1 1 Tryd.underlying32 hi hz0 hz1 hz2 rfl (by decide) (.slice none 0 0) 0 [] rfl (World.ownsRow_nil w _ _ _) a zs.length ca (iNews .u8 zs) rfl (by simp [iNews]) (iNews_cell hA) (iNews_one _ _) (by unfold maxLen; omega) (by omega) (Nat.le_refl _) ?_; intro v' w' hown hgrow hnil)
    go_ret
    exact copyP_mk rfl (by simpa using hown) hgrow
set_option maxRecDepth 100000 in
set_option maxHeartbeats 1000000 in
theorem eqbytes_any (A B : Option Addr) (ca cb : Nat) (zs ys : List Int) (w : World) (hA : IntsAt w A .u8 zs) (hB : IntsAt w B .u8 ys) (hz : zs.length ≤ 1048576) :
    Calls Tryd.prog 13 #[.slice A zs.length ca, .slice B ys.length cb] w fun e w' => e = .returned (.bool (decide (zs = ys))) ∧ Below w.heap.size w w' := by
  by_cases hl : zs.length = ys.length
  · have hl' : ((zs.length : Int) == (ys.length : Int)) = true := by rw [hl]; simp
    have HL : Hid (zs.length = ys.length) := hl
    clear hl
    go_enter Tryd.func13, Tryd.ntmps13
    go_wp2
    go_loopw [5] (fun i wr => ∃ (k m : Nat), i = .int .i64 k ∧ k ≤ zs.length ∧ wr = w.drewN m ∧ Hid (zs.take k = ys.take k)) (fun i _ => zs.length - (intOf i).toNat)
    case atStart => exact ⟨0, 0, rfl, by omega, rfl, by simp [Hid]⟩
    case round =>
      obtain ⟨k, m, rfl, hk, rfl, HT⟩ := hrel
      by_cases hlt : k < zs.length
      · obtain ⟨a, rfl, c1⟩ := hA k hlt
        obtain ⟨b, rfl, c2⟩ := hB k (by have := HL.out; omega)
        have hlt2 : (k : Int) < (ys.length : Int) := by have := HL.out; omega
        by_cases he : nth zs k = nth ys k
        · have HE : Hid (nth zs k = nth ys k) := he
          have he' : (nth zs k == nth ys k) = true := by simpa using he
          clear he
          go_wp2_with fail
          go_quiet (fail)
          go_wp2
          go_roundw
          case rel => exact ⟨k + 1, _, by go_num, by omega, rfl, take_same HT.out hlt (by omega) HE.out⟩
          case measure => simp [intOf]; omega
        · have HE : Hid (¬ nth zs k = nth ys k) := he
          have he' : (nth zs k == nth ys k) = false := by simpa using he
          clear he
          go_wp2_with fail
          go_quiet (fail)
          go_wp2
          go_ret
          exact ⟨retB (decide_eq_false (nth_ne HE.out)).symm, below_drewN (below_drewN (Below.refl _ _) _) _⟩
      · go_wp2
        go_ret
        exact ⟨retB (decide_eq_true (take_all HT.out (by omega) HL.out)).symm, below_drewN (Below.refl _ _) _⟩
  · have hl' : ((zs.length : Int) == (ys.length : Int)) = false := by simp; omega
    have HL : Hid (¬ zs.length = ys.length) := hl
    clear hl
    go_enter Tryd.func13, Tryd.ntmps13
    go_wp2
    go_ret
    exact ⟨retB (decide_eq_false (fun h => HL.out (by rw [h]))).symm, Below.refl _ _⟩


theorem iNews_vals (K : IntKind) (zs : List Int) : iNews K zs = iVals K zs := by
  apply List.ext_getElem?
  intro i
  unfold iNews iVals
  by_cases h : i < zs.length
  · simp [h, wInt, nth, List.getD]
  · simp [h]


end Go.Proofs.YtfaekkbblpfbhaaDoor

namespace Go.Proofs.YtfaekkbblpfbhaaDoor
open Go.RowKit

theorem ints_taken {w : World} {A : Option Addr} {K : IntKind} {l : List Int} (h : IntsAt w A K l) (p : Nat) : IntsAt w A K (l.take p) := fun i hi => by
  have hi' : i < p ∧ i < l.length := by rw [List.length_take] at hi; omega
  obtain ⟨a, e, q⟩ := h i hi'.2
  exact ⟨a, e, by rw [show nth (l.take p) i = nth l i by simp [nth, List.getD, hi'.1]]; exact q⟩
set_option maxRecDepth 100000 in
set_option maxHeartbeats 2000000 in
theorem end_any (w0 : World) (ga gb gn gm : Nat) (A : Option Addr) (c : Nat) (b : List Int) (p : Nat) (w : World) (h : TkBy w0 ga gb gn gm A c b p w) :
    Calls Tryd.prog 82 #[.agg #[.func (.func 92) #[] #[.pointer (some ⟨ga, 0, none⟩)], .func (.func 93) #[] #[.pointer (some ⟨ga, 0, none⟩), .pointer (some ⟨gb, 0, none⟩)], .func (.func 94) #[] #[.pointer (some ⟨gn, 0, none⟩)], .func (.func 95) #[] #[.pointer (some ⟨gm, 0, none⟩)], .func (.func 96) #[] #[.pointer (some ⟨ga, 0, none⟩), .pointer (some ⟨gm, 0, none⟩)]], .slice A b.length c] w (TakesI w0 ga gb gn gm A c b ((), tEnd b ⟨p, 0, 0⟩) (fun _ => .tuple #[]) w) := by
  have hB0 : Below w.heap.size w (w.alloc (.cells #[.func (.func 92) #[] #[.pointer (some ⟨ga, 0, none⟩)], .func (.func 93) #[] #[.pointer (some ⟨ga, 0, none⟩), .pointer (some ⟨gb, 0, none⟩)], .func (.func 94) #[] #[.pointer (some ⟨gn, 0, none⟩)], .func (.func 95) #[] #[.pointer (some ⟨gm, 0, none⟩)], .func (.func 96) #[] #[.pointer (some ⟨ga, 0, none⟩), .pointer (some ⟨gm, 0, none⟩)]] 148)) := lb_alloc (Below.refl _ _) _
  have HI : Hid (TkBy w0 ga gb gn gm A c b p (w.alloc (.cells #[.func (.func 92) #[] #[.pointer (some ⟨ga, 0, none⟩)], .func (.func 93) #[] #[.pointer (some ⟨ga, 0, none⟩), .pointer (some ⟨gb, 0, none⟩)], .func (.func 94) #[] #[.pointer (some ⟨gn, 0, none⟩)], .func (.func 95) #[] #[.pointer (some ⟨gm, 0, none⟩)], .func (.func 96) #[] #[.pointer (some ⟨ga, 0, none⟩), .pointer (some ⟨gm, 0, none⟩)]] 148))) := h.keep hB0
  have HX : Hid ((w.alloc (.cells #[.func (.func 92) #[] #[.pointer (some ⟨ga, 0, none⟩)], .func (.func 93) #[] #[.pointer (some ⟨ga, 0, none⟩), .pointer (some ⟨gb, 0, none⟩)], .func (.func 94) #[] #[.pointer (some ⟨gn, 0, none⟩)], .func (.func 95) #[] #[.pointer (some ⟨gm, 0, none⟩)], .func (.func 96) #[] #[.pointer (some ⟨ga, 0, none⟩), .pointer (some ⟨gm, 0, none⟩)]] 148)).heap[w.heap.size]? = some (.cells #[.func (.func 92) #[] #[.pointer (some ⟨ga, 0, none⟩)], .func (.func 93) #[] #[.pointer (some ⟨ga, 0, none⟩), .pointer (some ⟨gb, 0, none⟩)], .func (.func 94) #[] #[.pointer (some ⟨gn, 0, none⟩)], .func (.func 95) #[] #[.pointer (some ⟨gm, 0, none⟩)], .func (.func 96) #[] #[.pointer (some ⟨ga, 0, none⟩), .pointer (some ⟨gm, 0, none⟩)]] 148 (0, 0))) := heap_alloc_new _ _
  have HB0 : Hid (But ga w (w.alloc (.cells #[.func (.func 92) #[] #[.pointer (some ⟨ga, 0, none⟩)], .func (.func 93) #[] #[.pointer (some ⟨ga, 0, none⟩), .pointer (some ⟨gb, 0, none⟩)], .func (.func 94) #[] #[.pointer (some ⟨gn, 0, none⟩)], .func (.func 95) #[] #[.pointer (some ⟨gm, 0, none⟩)], .func (.func 96) #[] #[.pointer (some ⟨ga, 0, none⟩), .pointer (some ⟨gm, 0, none⟩)]] 148))) := But.of hB0
  have hlt := h.lt
  have hA := h.areB
  have hl := h.len
  have hcap := h.cap
  have hpos := h.pos
  have CP := place_any w0 ga gb gn gm A c b p _ HI.out
  have CN := tnum_any w0 ga gb gn gm A c b p _ HI.out
  clear h hB0
  by_cases h4 : p + 4 ≤ b.length
  · rw [four_yes h4] at CN
    obtain ⟨v0, v1⟩ := (be4_v4 (l := b.drop p) (by simp; omega) (hA.drop p)).2
    obtain ⟨a, rfl, _⟩ := HI.out.ints 0 (by omega)
    have htl : (b.take p).length = p := by rw [List.length_take]; omega
    have CS := fun wx (hb : Below w0.heap.size w0 wx) => sum_any (some a) c (b.take p) wx (ints_taken (HI.out.ints.keep hb) _) (hA.take _) (by omega)
    rw [htl] at CS
    have HE : Hid (tEnd b ⟨p, 0, 0⟩ = if p + 4 < b.length then ⟨p + 4, 27, p + 4⟩ else if v4 (b.drop p) = sumB (b.take p) then ⟨p + 4, 0, 0⟩ else ⟨p + 4, 28, p⟩) := by
      rw [Hid, tEnd, four_yes h4]
      simp
    generalize v4 (b.drop p) = x at *
    generalize sumB (b.take p) = s at *
    go_enter Tryd.func82, Tryd.ntmps82
    go_wp2_with fail
    refine CP.mono ?_
    rintro r w1 ⟨rfl, rfl⟩
    obtain ⟨t0, t1, t2, t3, t4⟩ := box5_cell HX.out
    go_wp2_with fail
    refine CN.mono ?_
    intro r w2 hr
    obtain ⟨rfl, hi, hb⟩ := hr.ok rfl
    have HX2 := but_box hb HX.out (by omega)
    clear hr t0 t1 t2 t3 t4
    obtain ⟨t0, t1, t2, t3, t4⟩ := box5_cell HX2
    have HI2 : Hid (TkBy w0 ga gb gn gm (some a) c b (p + 4) w2) := hi
    have HB2 : Hid (But ga w w2) := HB0.out.trans hb
    have CP2 := place_any w0 ga gb gn gm (some a) c b (p + 4) _ HI2.out
    clear hi hb HX2
    go_wp2_with fail
    refine CP2.mono ?_
    rintro r w3 ⟨rfl, rfl⟩
    by_cases h5 : p + 4 < b.length
    · go_wp2
      refine ⟨rfl, ?_⟩
      rw [HE.out, if_pos h5]
      exact takesI_no HB2.out (by simp) rfl (by simp)
    · have hc' : (b.length : Int) ≤ (c : Int) := by omega
      go_wp2_with fail
      refine (CS _ HI2.out.below).mono ?_
      rintro r w4 ⟨rfl, rfl⟩
      cases hx : (x == s) with
      | true =>
        have hx2 : (x != s) = false := by simpa using hx
        go_wp2
        go_end0
        rw [HE.out, if_neg h5, if_pos (by simpa using hx)]
        exact takesI_yes HB2.out rfl rfl HI2.out
      | false =>
        have hx2 : (x != s) = true := by simpa using hx
        go_wp2
        refine ⟨rfl, ?_⟩
        rw [HE.out, if_neg h5, if_neg (by simpa using hx)]
        exact takesI_no HB2.out (by simp) rfl rfl
  · rw [four_no h4] at CN
    have HE : Hid (tEnd b ⟨p, 0, 0⟩ = ⟨p, 27, b.length⟩) := by
      rw [Hid, tEnd, four_no h4]
      rfl
    go_enter Tryd.func82, Tryd.ntmps82
    go_wp2_with fail
    refine CP.mono ?_
    rintro r w1 ⟨rfl, rfl⟩
    obtain ⟨t0, t1, t2, t3, t4⟩ := box5_cell HX.out
    go_wp2_with fail
    refine CN.mono ?_
    intro r w2 hr
    obtain ⟨rfl, hb⟩ := hr.err (by simp)
    clear hr
    go_wp2
    refine ⟨rfl, ?_⟩
    rw [HE.out]
    exact takesI_no (HB0.out.trans hb) (by simp) rfl rfl

end Go.Proofs.YtfaekkbblpfbhaaDoor
