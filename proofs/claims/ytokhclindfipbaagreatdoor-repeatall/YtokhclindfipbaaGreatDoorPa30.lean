/-
  The document's stands, all, Ends and less.
-/
import Derived.Test.YtokhclindfipbaaGreatDoorProg
import Derived.WalkKit
import Derived.WalkSpells
import Derived.WalkLawsBesides
import Derived.RowKit3
import Derived.Below
import Derived.Deep.QuietTactic
import Derived.BigQuiet
import Derived.WalkSmall
import Derived.Laws.Rows
import Derived.OwnWalk
import Derived.Deep.Cut
import Derived.Deep.RegionHeld3
import Derived.Deep.LoopGhost
import Derived.Test.YtokhclindfipbaaGreatDoorPa05
import Derived.Test.YtokhclindfipbaaGreatDoorPa17
import Derived.Test.YtokhclindfipbaaGreatDoorPa27
import Derived.Test.YtokhclindfipbaaGreatDoorPa28
import Derived.Test.YtokhclindfipbaaGreatDoorPa29
namespace Go.Proofs.YtokhclindfipbaaGreatDoor
open Go.RowKit

def NewQ (L : List Int) (n : Nat) (w : World) (e : Ending) (w' : World) : Prop := ∃ (A : Option Addr) (c : Nat), e = .returned (.slice A n c) ∧ w'.ownsRow w.heap.size 3 1 (.slice A n c) n (iVals .i64 L) ∧ Below w.heap.size w w'
theorem add_block (a : Addr) (k : Nat) : (a.add k).block = a.block := by
  unfold Addr.add
  split <;> rfl
/-- A list of ends. -/
structure EnsP (nm : List Int) (en : Nat → Nat) (es : List Int) : Prop where
  ok : EnP nm en
  len : es.length = nm.length
  at_ : ∀ k, k < nm.length → nth es k = ((en k : Nat) : Int)
set_option maxRecDepth 100000 in
set_option maxHeartbeats 2000000 in
theorem refstands_q (A E : Option Addr) (c d : Nat) (nm es : List Int) (en : Nat → Nat) (i n k : Nat) (w : World) (hA : IntsAt w A .i64 nm) (hE : IntsAt w E .i64 es) (he : EnsP nm en es) (hl : nm.length ≤ 1048576) (hi : i < nm.length) (hk : k < nm.length) (hr : i + n ≤ en i) :
    Calls Tryz.prog 69 #[.slice A nm.length c, .slice E nm.length d, .int .i64 (i : Int), .int .i64 (n : Int), .int .i64 (k : Int)] w fun e w' => e = .returned (.bool (decide (n ≤ mE nm en i k))) ∧ ∃ m, w' = w.drewN m := by
  have a1 := he.ok.lt i hi
  have a2 := he.ok.le i hi
  have b1 := he.ok.lt k hk
  have b2 := he.ok.le k hk
  obtain ⟨x, ex, q⟩ := hE k (by rw [he.len]; exact hk)
  subst ex
  rw [he.at_ k hk] at q
  have HM : Hid (n ≤ mE nm en i k ↔ i + n ≤ en i ∧ k + n ≤ en k ∧ ∀ t, t < n → nth nm (i + t) = nth nm (k + t)) := mE_iff he.ok hi hk
  have hki : (k : Int) < (nm.length : Int) := by omega
  obtain ⟨y, ey, -⟩ := hA i hi
  subst ey
  have HA : Hid (IntsAt w (some y) .i64 nm) := hA
  clear hA hE he
  generalize en k = ek at *
  generalize en i = ei at *
  by_cases hroom : k + n ≤ ek
  · have hr' : ¬ (ek : Int) < (k : Int) + (n : Int) := by omega
    have hr2 : ¬ ek < k + n := by omega
    have HM2 : Hid (n ≤ mE nm en i k ↔ ∀ t, t < n → nth nm (i + t) = nth nm (k + t)) := ⟨fun h => (HM.out.1 h).2.2, fun h => HM.out.2 ⟨hr, hroom, h⟩⟩
    clear HM
    go_enter Tryz.func69, Tryz.ntmps69
    go_wp2
    go_loopw [11] (fun v wr => ∃ (t d : Nat), v = .int .i64 (t : Int) ∧ t ≤ n ∧ wr = w.drewN d ∧ Hid (∀ s, s < t → nth nm (i + s) = nth nm (k + s))) (fun v _ => n - (intOf v).toNat)
    case atStart => exact ⟨0, 0, rfl, Nat.zero_le _, rfl, fun s h => absurd h (Nat.not_lt_zero _)⟩
    case round =>
      obtain ⟨t, d, rfl, ht, rfl, HS⟩ := hrel
      by_cases hlt : t < n
      · have hlt' : (t : Int) < (n : Int) := by omega
        obtain ⟨u, hu⟩ : ∃ u, u = i + t := ⟨_, rfl⟩
        obtain ⟨v, hv⟩ : ∃ v, v = k + t := ⟨_, rfl⟩
        have hu1 : (i : Int) + (t : Int) = (u : Int) := by omega
        have hv1 : (k : Int) + (t : Int) = (v : Int) := by omega
        have hu2 : u < nm.length := by omega
        have hv2 : v < nm.length := by omega
        have hu3 : (u : Int) < (nm.length : Int) := by omega
        have hv3 : (v : Int) < (nm.length : Int) := by omega
        obtain ⟨x1, ex1, c1⟩ := HA.out u hu2
        obtain rfl := Option.some.inj ex1
        obtain ⟨x2, ex2, c2⟩ := HA.out v hv2
        obtain rfl := Option.some.inj ex2
        by_cases hv4 : nth nm u = nth nm v
        · have HS2 : Hid (∀ s, s < t + 1 → nth nm (i + s) = nth nm (k + s)) := fun s h => by
            by_cases e : s = t
            · rw [e, ← hu, ← hv]; exact hv4
            · exact HS.out s (by omega)
          rw [hv4] at c1
          clear hv4 HS hu hv
          generalize nth nm v = z at *
          go_upto_region 6 with fail
          go_quiet (fail)
          go_wp2
          go_roundw
          case rel => exact ⟨t + 1, _, by go_num, by omega, rfl, HS2⟩
          case measure => simp [intOf]; omega
        · have HN : Hid (decide (n ≤ mE nm en i k) = false) := decide_eq_false fun h => hv4 (by rw [hu, hv]; exact HM2.out.1 h t hlt)
          have hx : (nth nm u != nth nm v) = true := by simpa using hv4
          clear hv4 hu hv
          generalize nth nm u = z1 at *
          generalize nth nm v = z2 at *
          go_upto_region 6 with fail
          go_quiet (fail)
          go_wp2
          go_ret
          exact ⟨retB HN.out.symm, _, rfl⟩
      · obtain rfl : t = n := by omega
        have hlt' : ¬ (t : Int) < (t : Int) := by omega
        have HN : Hid (decide (t ≤ mE nm en i k) = true) := decide_eq_true (HM2.out.2 HS.out)
        go_wp2
        go_ret
        exact ⟨retB HN.out.symm, _, rfl⟩
  · have hr' : (ek : Int) < (k : Int) + (n : Int) := by omega
    have hr2 : ek < k + n := by omega
    have HN : Hid (decide (n ≤ mE nm en i k) = false) := decide_eq_false fun h => hroom (HM.out.1 h).2.1
    clear HM
    go_enter Tryz.func69, Tryz.ntmps69
    go_wp2
    go_ret
    exact ⟨retB HN.out.symm, 0, rfl⟩
/-- The places as they are found: the first k of the text are looked at. -/
def plK (nm : List Int) (en : Nat → Nat) (i n k : Nat) : List Nat := (List.range k).filter fun j => decide (n ≤ mE nm en i j)
theorem plK_yes {nm : List Int} {en : Nat → Nat} {i n k : Nat} (h : decide (n ≤ mE nm en i k) = true) : plK nm en i n (k + 1) = plK nm en i n k ++ [k] := by
  unfold plK
  rw [List.range_succ, List.filter_append]
  simp only [List.filter_cons, h, if_true, List.filter_nil]
theorem plK_no {nm : List Int} {en : Nat → Nat} {i n k : Nat} (h : decide (n ≤ mE nm en i k) = false) : plK nm en i n (k + 1) = plK nm en i n k := by
  unfold plK
  rw [List.range_succ, List.filter_append]
  simp [h]
theorem plK_len (nm : List Int) (en : Nat → Nat) (i n k : Nat) : (plK nm en i n k).length ≤ k := by
  have := List.length_filter_le (fun j => decide (n ≤ mE nm en i j)) (List.range k)
  rw [List.length_range] at this
  exact this
set_option maxRecDepth 100000 in
set_option maxHeartbeats 4000000 in
theorem refplaces_any (A E : Option Addr) (c d : Nat) (nm es : List Int) (en : Nat → Nat) (i n : Nat) (w : World) (hA : IntsAt w A .i64 nm) (hE : IntsAt w E .i64 es) (he : EnsP nm en es) (hl : nm.length ≤ 1048576) (hi : i < nm.length) (hr : i + n ≤ en i) :
    Calls Tryz.prog 31 #[.slice A nm.length c, .slice E nm.length d, .int .i64 (i : Int), .int .i64 (n : Int)] w (NewQ (natL (plcS nm en i n)) (plcS nm en i n).length w) := by
  have SQ := fun (W : World) (k : Nat) (h : Below w.heap.size w W) (hk : k < nm.length) => refstands_q A E c d nm es en i n k W (hA.keep h) (hE.keep h) he hl hi hk hr
  have HP : Hid (plcS nm en i n = plK nm en i n nm.length) := rfl
  rw [HP.out]
  obtain ⟨iI, hii, hz0, hz1, hz2⟩ := infoI
  clear hA hE he HP
  go_enter Tryz.func31, Tryz.ntmps31
  go_wp2
  go_loopw [9, 10] (fun vo v wr => ∃ (k : Nat) (X : Option Addr) (ko : Nat), v = .int .i64 (k : Int) ∧ vo = .slice X (plK nm en i n k).length ko ∧ k ≤ nm.length ∧ Hid (wr.ownsRow w.heap.size 3 1 (.slice X (plK nm en i n k).length ko) (plK nm en i n k).length (iVals .i64 (natL (plK nm en i n k)))) ∧ Hid (Below w.heap.size w wr)) (fun _ v _ => nm.length - (intOf v).toNat)
  case atStart => exact ⟨0, none, 0, rfl, rfl, Nat.zero_le _, World.ownsRow_nil _ _ _ _, Below.refl _ _⟩
  case round =>
    obtain ⟨k, X, ko, rfl, rfl, hk, HO, HB⟩ := hrel
    by_cases hlt : k < nm.length
    · have hlt' : (k : Int) < (nm.length : Int) := by omega
      have CS := SQ wr k HB.out hlt
      have hll := plK_len nm en i n k
      cases hs : decide (n ≤ mE nm en i k) with
      | true =>
        rw [hs] at CS
        have HY : Hid (plK nm en i n (k + 1) = plK nm en i n k ++ [k]) := plK_yes hs
        clear hs
        generalize plK nm en i n k = O at *
        go_wp2_with fail
        refine CS.mono ?_
        rintro e w5 ⟨rfl, m, hm⟩
        have HB5 : Hid (Below w.heap.size w w5) := by unfold Hid; rw [hm]; exact below_drewN HB.out m
        have HO5 : Hid (w5.ownsRow w.heap.size 3 1 (.slice X O.length ko) O.length (iVals .i64 (natL O))) := by unfold Hid; rw [hm]; exact HO.out
        clear hm CS HO HB
        have HBa : Hid (Below w.heap.size w (w5.alloc (.cells #[.int .i64 (k : Int)] 3))) := lb_alloc HB5.out _
        have HRa : Hid ((w5.alloc (.cells #[.int .i64 (k : Int)] 3)).ownsRow w.heap.size 3 1 (.slice X O.length ko) O.length (iVals .i64 (natL O))) := row_keep HO5.out (lb_alloc (Below.refl _ _) _)
        go_wp2_with (at_builtin; go_loud (refine wpList_append_own _ rfl (.tmp 23) (.tmp 25) 36 rfl w.heap.size 3 iI (.int .i64 0) 1 8 Tryz.underlying36 hii hz0 hz1 hz2 rfl (by decide) (.slice X O.length ko) O.length (iVals .i64 (natL O)) rfl HRa.out ⟨w5.heap.size, 0, none⟩ 1 1 [.int .i64 (k : Int)] rfl rfl (fun j u hu => World.news_of_block (new_at (by simp)) j u hu) one_oneI (by unfold maxLen; omega) (by omega) HBa.out.size ?_; intro v3 w6 hown hgrow _; have HB6 : Hid (Below w.heap.size w w6) := HBa.out.grown hgrow HBa.out.size (fun b hb => (HRa.out.lt b hb).1); have HR6 : Hid (w6.ownsRow w.heap.size 3 1 v3 (O.length + 1) (iVals .i64 (natL O) ++ [.int .i64 (k : Int)])) := hown; clear hown hgrow))
        obtain ⟨X6, k6, rfl, -⟩ := own_form2 HR6.out
        have HR7 : Hid (w6.ownsRow w.heap.size 3 1 (.slice X6 (plK nm en i n (k + 1)).length k6) (plK nm en i n (k + 1)).length (iVals .i64 (natL (plK nm en i n (k + 1))))) := by
          unfold Hid
          rw [HY.out, natL_app, iVals_app, List.length_append]
          exact HR6.out
        go_roundw
        case rel => exact ⟨k + 1, X6, k6, by go_num, by rw [HY.out, List.length_append]; rfl, by omega, HR7, HB6⟩
        case measure => simp [intOf]; omega
      | false =>
        rw [hs] at CS
        have HY : Hid (plK nm en i n (k + 1) = plK nm en i n k) := plK_no hs
        clear hs
        go_wp2_with fail
        refine CS.mono ?_
        rintro e w5 ⟨rfl, m, hm⟩
        have HB5 : Hid (Below w.heap.size w w5) := by unfold Hid; rw [hm]; exact below_drewN HB.out m
        have HO5 : Hid (w5.ownsRow w.heap.size 3 1 (.slice X (plK nm en i n (k + 1)).length ko) (plK nm en i n (k + 1)).length (iVals .i64 (natL (plK nm en i n (k + 1))))) := by unfold Hid; rw [hm, HY.out]; exact HO.out
        clear hm CS HO HB
        go_wp2
        go_roundw
        case rel => exact ⟨k + 1, X, ko, by go_num, by rw [HY.out], by omega, HO5, HB5⟩
        case measure => simp [intOf]; omega
    · obtain rfl : k = nm.length := by omega
      have hlt' : ¬ (nm.length : Int) < (nm.length : Int) := by omega
      go_wp2
      go_ret
      exact ⟨_, _, rfl, HO.out, HB.out⟩
set_option maxRecDepth 100000 in
set_option maxHeartbeats 4000000 in
theorem refends18_any (A1 A2 : Option Addr) (c1 ml c2 : Nat) (ent : Int) (text : List Int) (w : World) (hT : IntsAt w A1 .u32 text) (hR : ∀ i, i < text.length → 0 ≤ nth text i ∧ nth text i < 4294967296) (hM : MayI text ml ent) :
    Calls Tryz.prog 30 #[.agg #[.slice A1 text.length c1, .int .i64 ent, .slice A2 ml c2]] w (NewQ (enL (begF text ent) text.length) text.length w) := by
  have hl : text.length ≤ 16384 := hM.past.len
  have hl1 : text.length ≤ 1048576 := by omega
  have h00 : begF text ent 0 = true := beg_zero text ent
  obtain ⟨W, HW⟩ : ∃ W, Hid (w.alloc (.cells #[.slice A1 text.length c1, .int .i64 ent, .slice A2 ml c2] 25) = W) := ⟨_, rfl⟩
  have HB : Hid (Below w.heap.size w W) := by unfold Hid; rw [← HW.out]; exact lb_alloc (Below.refl _ _) _
  have i0 : W.cell? ⟨w.heap.size, 0, none⟩ = some (.slice A1 text.length c1) := by rw [← HW.out]; simp [go_sem]
  have i1 : W.cell? ⟨w.heap.size, 1, none⟩ = some (.int .i64 ent) := by rw [← HW.out]; simp [go_sem]
  have i2 : W.cell? ⟨w.heap.size, 2, none⟩ = some (.slice A2 ml c2) := by rw [← HW.out]; simp [go_sem]
  have HI : Hid (∀ Z, Below W.heap.size W Z → Z.cell? ⟨w.heap.size, 0, none⟩ = some (.slice A1 text.length c1) ∧ Z.cell? ⟨w.heap.size, 1, none⟩ = some (.int .i64 ent) ∧ Z.cell? ⟨w.heap.size, 2, none⟩ = some (.slice A2 ml c2)) := fun Z hZ => ⟨lkeep hZ i0, lkeep hZ i1, lkeep hZ i2⟩
  have hmk := made_rowP text.length hl1
  obtain ⟨Y, HY⟩ : ∃ Y, Hid (W.alloc (.cells (rowC text.length (fun _ => 0)).toArray 3) = Y) := ⟨_, rfl⟩
  have HBY : Hid (Below W.heap.size W Y) := by unfold Hid; rw [← HY.out]; exact lb_alloc (Below.refl _ _) _
  have HR0 : Hid (RwN Y W.heap.size text.length (enV (begF text ent) text.length 0)) := by
    unfold Hid
    refine RwN.same (f := fun _ => 0) ?_ fun i _ => (enV_zero _ _ i).symm
    rw [← HY.out]
    exact heap_alloc_new _ _
  have CB := fun Z (hZ : Below w.heap.size w Z) => refblocks_own A1 A2 c1 ml c2 ent text Z (hT.keep hZ) hR hM
  clear hT hR hM
  have HL : Hid ((blkL text ent).length = (plcT (begF text ent) text.length).length) := zipN_len _ _
  have HF : Hid (∀ j, j < (plcT (begF text ent) text.length).length → rAt (blkL text ent) j = ((bdN (begF text ent) text.length j : Nat) : Int) ∧ rSym (blkL text ent) j = ((bdN (begF text ent) text.length (j + 1) : Nat) : Int)) := fun j hj => ⟨bd_from hj, bd_to hj⟩
  have HZ0 : Hid (bdN (begF text ent) text.length 0 = 0) := bdN_zero h00
  have HZe : Hid (bdN (begF text ent) text.length (plcT (begF text ent) text.length).length = text.length) := bdN_end _ _
  have hpl : (plcT (begF text ent) text.length).length ≤ 16384 := by have := plcT_len (begF text ent) text.length; omega
  generalize begF text ent = f at *
  go_enter Tryz.func30, Tryz.ntmps30
  go_upto_region 1 with fail
  rw [HW.out]
  clear HW
  go_upto_region 2 with fail
  rw [HY.out]
  clear HY hmk i0 i1 i2
  obtain ⟨i0, i1, i2⟩ := HI.out Y HBY.out
  go_wp2_with fail
  refine (CB _ (lb_trans HB.out HBY.out)).mono ?_
  rintro e V ⟨Bb, cb, rfl, hov, hbv⟩
  have HRw : Hid (RwN V W.heap.size text.length (enV f text.length 0)) := by
    unfold Hid RwN
    rw [hbv.block W.heap.size HR0.out.lt]
    exact HR0.out
  have HWV : Hid (Below w.heap.size w V) := lb_trans (lb_trans HB.out HBY.out) hbv
  have HbwW : Hid (w.heap.size ≤ W.heap.size) := HB.out.size
  have hWY : W.heap.size < Y.heap.size := HR0.out.lt
  have HRL : Hid (∀ Z, ButS (fun b => b = W.heap.size) V Z → RelsAt Z Bb (blkL text ent)) := fun Z hZ j hj => by
    obtain ⟨a, ea, q1, q2⟩ := drow_rels hov j hj
    have hbk : Y.heap.size ≤ a.block := (hov.lt a.block (by rw [ea]; rfl)).1
    exact ⟨a, ea, hZ.cell (by rw [add_block]; omega) q1, hZ.cell (by rw [add_block, add_block]; omega) q2⟩
  rw [HL.out]
  clear hov hbv CB HBY HI HR0 i0 i1 i2 HB hWY
  go_wp2
  go_loopg [5] (plcT f text.length).length (fun g v wr => ∃ j : Nat, j + g = (plcT f text.length).length ∧ v = .int .i64 (j : Int) ∧ Hid (ButS (fun b => b = W.heap.size) V wr) ∧ Hid (RwN wr W.heap.size text.length (enV f text.length (bdN f text.length j)))) 
  case atStart => exact ⟨0, by omega, rfl, ButS.refl _ _, by rw [HZ0.out]; exact HRw⟩
  case round =>
    clear HRw
    obtain ⟨j, hjg, rfl, HS, HX⟩ := hrel
    by_cases hlt : j < (plcT f text.length).length
    · obtain ⟨g1, rfl⟩ : ∃ g1, gk = g1 + 1 := ⟨gk - 1, by omega⟩
      have hlt' : (j : Int) < ((plcT f text.length).length : Int) := by omega
      have HC : Hid (∀ Z, ButS (fun b => b = W.heap.size) V Z → ∃ a : Addr, Bb = some a ∧ Z.cell? (a.add (j * 2)) = some (.int .i64 ((bdN f text.length j : Nat) : Int)) ∧ Z.cell? ((a.add (j * 2)).add 1) = some (.int .i64 ((bdN f text.length (j + 1) : Nat) : Int))) := fun Z hZ => by
        obtain ⟨a, ea, q1, q2⟩ := HRL.out Z hZ j (by rw [HL.out]; exact hlt)
        rw [(HF.out j hlt).1] at q1
        rw [(HF.out j hlt).2] at q2
        exact ⟨a, ea, q1, q2⟩
      obtain ⟨a, ea, q1, q2⟩ := HC.out wr HS.out
      subst ea
      have HC2 : Hid (∀ Z, ButS (fun b => b = W.heap.size) V Z → Z.cell? ((a.add (j * 2)).add 1) = some (.int .i64 ((bdN f text.length (j + 1) : Nat) : Int))) := fun Z hZ => by
        obtain ⟨a', e', x, y⟩ := HC.out Z hZ
        obtain rfl := Option.some.inj e'
        exact y
      have HEn : Hid (∀ k, bdN f text.length j ≤ k → k < bdN f text.length (j + 1) → enK f text.length k = bdN f text.length (j + 1)) := fun k h1 h2 => enK_in hlt h1 h2
      have hb1 := bdN_le f text.length j
      have hb2 := bdN_le f text.length (j + 1)
      have hb3 := bdN_rise hlt
      have HNx : Hid (bdN f text.length (j + 1) = bdN f text.length (j + 1)) := rfl
      clear HC
      obtain ⟨b, hb⟩ : ∃ b, b = bdN f text.length j := ⟨_, rfl⟩
      obtain ⟨t, ht⟩ : ∃ t, t = bdN f text.length (j + 1) := ⟨_, rfl⟩
      rw [← hb] at q1 HX HEn hb1 hb3
      rw [← ht] at q2 HC2 HEn hb2 hb3
      have HT : Hid (t = bdN f text.length (j + 1)) := ht
      clear hb ht HNx
      go_wp2
      go_loopg [6] (t - b) (fun g v ws => ∃ k : Nat, k + g = t ∧ b ≤ k ∧ v = .int .i64 (k : Int) ∧ Hid (ButS (fun b => b = W.heap.size) V ws) ∧ Hid (RwN ws W.heap.size text.length (enV f text.length k)))
      case atStart => exact ⟨b, by omega, Nat.le_refl _, rfl, HS, HX⟩
      case round =>
        clear q1 q2 HS HX
        obtain ⟨k, hkg, hbk, rfl, HS, HX⟩ := hrel
        have q2 : wr.cell? ⟨(a.add (j * 2)).block, (a.add (j * 2)).off + 1, none⟩ = some (.int .i64 (t : Int)) := HC2.out _ HS.out
        by_cases hkt : k < t
        · have hkt' : (k : Int) < (t : Int) := by omega
          have hkn : k < text.length := by omega
          have hkn' : (k : Int) < (text.length : Int) := by omega
          have cg := HX.out.cell hkn
          have fg := HX.out.frz k
          have HX2 : Hid (RwN (World.setCell _ ⟨W.heap.size, k, none⟩ (.int .i64 (t : Int))) W.heap.size text.length (enV f text.length (k + 1))) := (HX.out.set hkn (t : Int)).same fun i _ => by
            rw [enV_put, HEn.out k hbk hkt]
            rfl
          have HS2 : Hid (ButS (fun b => b = W.heap.size) V (World.setCell _ ⟨W.heap.size, k, none⟩ (.int .i64 (t : Int)))) := HS.out.set rfl k (.int .i64 (t : Int))
          generalize enV f text.length k k = z0 at *
          go_wp2
          go_roundg (gk - 1)
          case measure => omega
          case rel => exact ⟨k + 1, by omega, by omega, by go_num, HS2, HX2⟩
        · obtain rfl : k = t := by omega
          have hkt' : ¬ (k : Int) < (k : Int) := by omega
          go_wp2
          go_roundg g1
          case measure => omega
          case rel => exact ⟨j + 1, by omega, by go_num, HS, by rw [← HT.out]; exact HX⟩
    · obtain rfl : j = (plcT f text.length).length := by omega
      have hlt' : ¬ ((plcT f text.length).length : Int) < ((plcT f text.length).length : Int) := by omega
      have HX2 : Hid (RwN wr W.heap.size text.length (enV f text.length text.length)) := by have := HX.out; rw [HZe.out] at this; exact this
      have HO : Hid (wr.ownsRow w.heap.size 3 1 (.slice (some ⟨W.heap.size, 0, none⟩) text.length text.length) text.length (iVals .i64 (enL f text.length))) := HX2.out.own (enL_len f text.length) (fun i hi => by rw [enL_nth hi]; exact if_pos hi) hl1 HbwW.out
      have HBf : Hid (Below w.heap.size w wr) := HS.out.below HWV.out (fun k hk => by rw [hk]; exact HbwW.out)
      go_wp2
      go_ret
      exact ⟨_, _, rfl, HO.out, HBf.out⟩


end Go.Proofs.YtokhclindfipbaaGreatDoor
