/-
  Apart. Overlaps. The law's works. Rows with blocks of their own, marked and grown: what stays; no Go in sight.
-/
import Derived.Test.YtkdafkdogmemcaaDoorProg
import Derived.WalkKit
import Derived.WalkSpells
import Derived.WalkLawsBesides
import Derived.RowKit3
import Derived.Below
import Derived.Deep.QuietTactic
import Derived.BigQuiet
import Derived.WalkSmall
import Derived.Laws.Rows
import Derived.Test.YtkdafkdogmemcaaDoorPs08
import Derived.Test.YtkdafkdogmemcaaDoorPs10
import Derived.Test.YtkdafkdogmemcaaDoorPs05
import Derived.Lib.OwnBridge
import Derived.Sort.OwnSortedInts
import Derived.Deep.RegionHeld3
import Derived.Deep.AppendLies
import Derived.Laws.OwnMore
namespace Go.Proofs.YtkdafkdogmemcaaDoor
open Go.RowKit

set_option maxRecDepth 100000 in
set_option maxHeartbeats 4000000 in
theorem papart_any (n : Int) (A : Option Addr) (c : Nat) (l : List Spt) (w : World) (hA : SpAt w A l) (hl : l.length ≤ 1048576) :
    Calls Tryd.prog 6 #[.int .i64 n, .slice A l.length c] w (SpsP (apR n l) w) := by
  have CW := maybe_any n A c l w hA hl
  cases hwi : wiB n l with
  | false =>
    have HR : Hid (apR n l = []) := by unfold Hid apR; rw [hwi, if_neg (by simp)]
    rw [hwi] at CW
    rw [HR.out]
    clear hA HR hwi
    go_enter Tryd.func6, Tryd.ntmps6
    go_wp2_with fail
    refine CW.mono ?_
    rintro e w1 ⟨rfl, hb⟩
    have HB : Hid (Below w.heap.size w w1) := hb
    clear hb
    go_wp2
    go_ret
    exact ⟨none, 0, rfl, World.ownsRow_nil _ _ _ _, HB.out⟩
  | true =>
    obtain ⟨hm, hn1, hn2⟩ := wi_mem hwi
    have HM : Hid (∀ s ∈ l, 0 ≤ s.1 ∧ s.1 ≤ 16384) := hm
    have HR : Hid (apR n l = apG n [] l) := by unfold Hid apR; rw [hwi, if_pos rfl]
    rw [hwi] at CW
    rw [HR.out]
    have HA : Hid (SpAt w A l) := hA
    clear hA HR hwi hm
    go_enter Tryd.func6, Tryd.ntmps6
    go_wp2_with fail
    refine CW.mono ?_
    rintro e w1 ⟨rfl, hb⟩
    have HB1 : Hid (Below w.heap.size w w1) := hb
    clear CW hb
    go_upto_region 4 with fail
    obtain ⟨w2, hw2⟩ : ∃ w2, w1.alloc (.cells #[.slice none 0 0, .slice none 0 0] 57) = w2 := ⟨_, rfl⟩
    have hk0 : KpAt w2 w1.heap.size w.heap.size none none 0 0 [] [] := by
      rw [← hw2]
      exact ⟨heap_alloc_new _ _, World.ownsRow_nil _ _ _ _, World.ownsRow_nil _ _ _ _⟩
    have HB2 : Hid (Below w.heap.size w w2) := by unfold Hid; rw [← hw2]; exact lb_alloc HB1.out _
    have hz1 := HB1.out.size
    rw [hw2]
    clear hw2
    go_wp2
    go_loopw [14] (fun vi wr => ∃ (i : Nat) (O : List Spt) (Q : List Int) (X Y : Option Addr) (ko kq : Nat), vi = .int .i64 (i : Int) ∧ i ≤ l.length ∧ O.length ≤ i ∧ Hid (apG n O (l.drop i) = apG n [] l) ∧ Hid (∀ s ∈ O, s ∈ l) ∧ Hid (KpP O Q) ∧ Hid (KpAt wr w1.heap.size w.heap.size X Y ko kq O Q) ∧ Hid (Below w.heap.size w wr)) (fun vi _ => l.length - (intOf vi).toNat)
    case atStart => exact ⟨0, [], [], none, none, 0, 0, rfl, Nat.zero_le _, Nat.le_refl _, rfl, (fun s h => by cases h), KpP.nil, hk0, HB2.out⟩
    case round =>
      obtain ⟨i, O, Q, X, Y, ko, kq, rfl, hin, hOi, HG, HS, HP, HK, HB⟩ := hrel
      by_cases hlt : i < l.length
      · have hlt' : (i : Int) < (l.length : Int) := by omega
        have hsm := HM.out _ (spt_mem hlt)
        have HGy : Hid (O.any (fun o => ovl n o (spt l i)) = false → apG n (O ++ [spt l i]) (l.drop (i + 1)) = apG n [] l) := fun h => by rw [← apG_yes hlt h]; exact HG.out
        have HGn : Hid (O.any (fun o => ovl n o (spt l i)) = true → apG n O (l.drop (i + 1)) = apG n [] l) := fun h => by rw [← apG_no hlt h]; exact HG.out
        have HAny : Hid (besB n Q (spt l i).1 = O.any (fun o => ovl n o (spt l i))) := HP.out.any (spt l i)
        have HSm : Hid (spt l i ∈ l) := spt_mem hlt
        obtain ⟨a, ea, p1, p2, p3⟩ := (HA.out.keep HB.out) i hlt
        subst ea
        clear HG
        generalize spt l i = s at *
        obtain ⟨s0, s1, s2⟩ := s
        simp only at hsm
        replace p1 : wr.cell? (a.add (i * 3)) = some (.int .i64 s0) := p1
        replace p2 : wr.cell? ⟨(a.add (i * 3)).block, (a.add (i * 3)).off + 1, none⟩ = some (.int .i8 s1) := p2
        replace p3 : wr.cell? ⟨(a.add (i * 3)).block, (a.add (i * 3)).off + 2, none⟩ = some (.int .i8 s2) := p3
        have hQl : Q.length ≤ 1048576 := by rw [HP.out.len]; omega
        have hOl : O.length ≤ 1048576 := by omega
        have C1 := fun (Z : World) (hZ : Below wr.heap.size wr Z) => poverl_any n s0 w1.heap.size w.heap.size X Y ko kq O Q Z (HK.out.keep hZ) HP.out.srt hQl hsm (fun p hp => by
          obtain ⟨r, hr, rfl⟩ := (HP.out.mem p).1 hp
          exact HM.out r (HS.out r hr))
        have C2 := fun (Z : World) (hZ : Below wr.heap.size wr Z) => keep_any w1.heap.size w.heap.size X Y ko kq O Q s0 s1 s2 Z (HK.out.keep hZ) HP.out.srt hQl hOl hz1
        have hbx : Below wr.heap.size wr (wr.alloc (.cells #[.int .i64 s0, .int .i8 s1, .int .i8 s2] 53)) := lb_alloc (Below.refl _ _) _
        replace HAny : Hid (besB n Q s0 = O.any (fun o => ovl n o (s0, s1, s2))) := HAny
        cases hb : O.any (fun o => ovl n o (s0, s1, s2)) with
        | true =>
          have HG2 : Hid (apG n O (l.drop (i + 1)) = apG n [] l) := HGn.out hb
          rw [HAny.out, hb] at C1
          clear HGy HGn HAny hb C2
          go_wp2_with (go_at_call 16; refine (C1 _ hbx).mono ?_; rintro e w5 ⟨rfl, hb5⟩; have HB5 : Hid (Below wr.heap.size wr w5) := lb_trans hbx hb5; clear hb5)
          go_roundw
          case rel => exact ⟨i + 1, O, Q, X, Y, ko, kq, by go_num, by omega, by omega, HG2, HS, HP, HK.out.keep HB5.out, lb_trans HB.out HB5.out⟩
          case measure => simp [intOf]; omega
        | false =>
          have HG2 : Hid (apG n (O ++ [(s0, s1, s2)]) (l.drop (i + 1)) = apG n [] l) := HGy.out hb
          have HS2 : Hid (∀ s ∈ O ++ [(s0, s1, s2)], s ∈ l) := fun s hs => by
            rcases List.mem_append.1 hs with h | h
            · exact HS.out s h
            · rw [List.mem_singleton.1 h]; exact HSm.out
          rw [HAny.out, hb] at C1
          have hbw : wr.heap.size < (wr.alloc (.cells #[.int .i64 s0, .int .i8 s1, .int .i8 s2] 53)).heap.size := by simp
          have q1 : (wr.alloc (.cells #[.int .i64 s0, .int .i8 s1, .int .i8 s2] 53)).heap[wr.heap.size]? = some (.cells #[.int .i64 s0, .int .i8 s1, .int .i8 s2] 53 (0, 0)) := heap_alloc_new _ _
          clear HGy HGn HAny hb
          go_wp2_with (first | (go_at_call 16; refine (C1 _ hbx).mono ?_; rintro e w5 ⟨rfl, hb5⟩; have HB5 : Hid (Below wr.heap.size wr w5) := lb_trans hbx hb5; have r1 := (hb5.block _ hbw).trans q1; have r2 : w5.cell? ⟨wr.heap.size, 0, none⟩ = some (.int .i64 s0) := (cell_of_row w5 _ 0 _ _ (0, 0) r1).trans rfl; have r3 : w5.cell? ⟨wr.heap.size, 1, none⟩ = some (.int .i8 s1) := (cell_of_row w5 _ 1 _ _ (0, 0) r1).trans rfl; have r4 : w5.cell? ⟨wr.heap.size, 2, none⟩ = some (.int .i8 s2) := (cell_of_row w5 _ 2 _ _ (0, 0) r1).trans rfl; clear hb5 r1) | (go_at_call 17; refine (C2 _ HB5.out).mono ?_; rintro e w6 ⟨⟨X6, Y6, ko6, kq6, hk6⟩, rfl, hb6⟩; have HK6 : Hid _ := hk6; have HB6 : Hid (Below w.heap.size w w6) := (lb_trans HB.out HB5.out).trans hb6; clear hk6 hb6))
          go_roundw
          case rel => exact ⟨i + 1, O ++ [(s0, s1, s2)], insN Q s0, X6, Y6, ko6, kq6, by go_num, by omega, by rw [List.length_append]; show O.length + 1 ≤ i + 1; omega, HG2, HS2, HP.out.add (s0, s1, s2), HK6, HB6⟩
          case measure => simp [intOf]; omega
      · obtain rfl : i = l.length := by omega
        have hlt' : ¬ (l.length : Int) < (l.length : Int) := by omega
        have HV : Hid (apG n [] l = O) := by
          have h1 := HG.out
          rw [List.drop_length] at h1
          exact h1.symm
        have c0 := HK.out.c0
        have HF : Hid (SpsP (apG n [] l) w (.returned (.slice X O.length ko)) wr) := by
          unfold Hid
          rw [HV.out]
          exact ⟨X, ko, rfl, HK.out.spots, HB.out⟩
        clear HG HV HB HK
        go_wp2
        go_ret
        exact HF.out

end Go.Proofs.YtkdafkdogmemcaaDoor

namespace Go.Proofs.YtkdafkdogmemcaaDoor
open Go.RowKit

open Go.Sort
/-- The sort's end. -/
theorem sort20 {w w1 : World} {g n c nn : Nat} {os : Array Obj} {L : List Int} (HR : w1.ownsRow w.heap.size 3 1 (.slice (some ⟨g, 0, none⟩) n c) n (iVals .i64 L)) (HB : Below w.heap.size w w1) (hl : L.length = n) :
    (grow (putRow (Value.int .i64) (Sort.ahead w1 nn) g 0 (L.mergeSort fun x y => decide (x ≤ y)).toArray) os).ownsRow w.heap.size 3 1 (.slice (some ⟨g, 0, none⟩) n c) n (iVals .i64 (srtL L)) ∧ Below w.heap.size w (grow (putRow (Value.int .i64) (Sort.ahead w1 nn) g 0 (L.mergeSort fun x y => decide (x ≤ y)).toArray) os) := by
  have hl2 : (L.mergeSort fun x y => decide (x ≤ y)).length = L.length := List.length_mergeSort L
  subst hl
  rcases HR.2 with ⟨e0, h0⟩ | ⟨g', cap, cur, e0, hb, h1, h2, h3, h4, h5⟩
  · cases e0
  · cases e0
    exact ⟨ownsRow_sortedI (n := nn) (os := os) (ts := L.mergeSort fun x y => decide (x ≤ y)) hl2 hb h1 h2 h3 h4, HB.grown (grownBy_sortedI _) HB.size (fun j hj => by cases hj; exact hb)⟩
theorem psort_any (L : List Int) (O : Option Addr) (c : Nat) (w w1 : World) (HR : w1.ownsRow w.heap.size 3 1 (.slice O L.length c) L.length (iVals .i64 L)) (HB : Below w.heap.size w w1) (hl : L.length ≤ 1048576) :
    Calls Tryd.prog 21 #[.slice O L.length c] w1 fun e w2 => e = .returned (.tuple #[]) ∧ w2.ownsRow w.heap.size 3 1 (.slice O L.length c) L.length (iVals .i64 (srtL L)) ∧ Below w.heap.size w w2 := by
  cases L with
  | nil =>
    refine (Any.slices_Sort_int_none Tryd.layS O c w1).mono ?_
    rintro e w2 ⟨rfl, rfl⟩
    exact ⟨rfl, by rw [show srtL [] = [] from List.mergeSort_nil]; exact HR, HB⟩
  | cons y M =>
    obtain ⟨g, cap, ev, hbg, hgl, hnc, hcm, hzl, hH⟩ := Lib.holds_of_ownsRow (enc := Value.int .i64) (zs := y :: M) HR (fun e => by injection e with _ e2 _; simp at e2)
    injection ev with e1 _ e3
    subst e1
    subst e3
    refine (Any.slices_Sort_int Tryd.layS g 0 c (y :: M) w1 hH hgl (by omega)).mono ?_
    rintro e w2 ⟨rfl, nn, os, rfl⟩
    exact ⟨rfl, sort20 HR HB rfl⟩
set_option maxRecDepth 100000 in
set_option maxHeartbeats 8000000 in
theorem poverlaps_any (n : Int) (A : Option Addr) (c : Nat) (l : List Spt) (w : World) (hA : SpAt w A l) (hl : l.length ≤ 65536) :
    Calls Tryd.prog 9 #[.int .i64 n, .slice A l.length c] w fun e w' => e = .returned (.int .i64 ((ovR n l : Nat) : Int)) ∧ Below w.heap.size w w' := by
  have CW := maybe_any n A c l w hA (by omega)
  cases hwi : wiB n l with
  | false =>
    have HR : Hid (ovR n l = 0) := by unfold Hid ovR; rw [hwi, if_neg (by simp)]
    rw [hwi] at CW
    rw [HR.out]
    clear hA HR hwi
    go_enter Tryd.func9, Tryd.ntmps9
    go_wp2_with fail
    refine CW.mono ?_
    rintro e w1 ⟨rfl, hb⟩
    have HB : Hid (Below w.heap.size w w1) := hb
    clear hb
    go_wp2
    go_ret
    exact ⟨rfl, HB.out⟩
  | true =>
    obtain ⟨hm, hn1, hn2⟩ := wi_mem hwi
    have HR : Hid (ovR n l = pcP n (srtL (plL l)) l.length) := by unfold Hid ovR; rw [hwi, if_pos rfl, ovP_srt]
    have HSr : Hid (Srt (srtL (plL l))) := srtL_srt _
    have HSl : Hid ((srtL (plL l)).length = l.length) := by unfold Hid; rw [(srtL_perm _).length_eq, plL_len]
    have HSb : Hid (∀ j, j < l.length → 0 ≤ (srtL (plL l)).getD j 0 ∧ (srtL (plL l)).getD j 0 ≤ 16384) := fun j hj => by
      have h1 : (srtL (plL l)).getD j 0 ∈ srtL (plL l) := getD_mem (by rw [HSl.out]; exact hj)
      have h2 := (srtL_perm (plL l)).mem_iff.1 h1
      obtain ⟨s, hs, e⟩ := List.mem_map.1 h2
      rw [← e]
      exact hm s hs
    have HPb : Hid (∀ k, k ≤ l.length → pcP n (srtL (plL l)) k ≤ 4294967296) := fun k hk => by
      have h1 := pcP_le n (srtL (plL l)) (i := k) (b := 65536) (by omega)
      have h2 : k * 65536 ≤ 65536 * 65536 := Nat.mul_le_mul_right _ (by omega)
      omega
    have HSt : Hid (∀ k f, k < l.length → f ≤ k → (∀ j, j < f → ¬ (srtL (plL l)).getD k 0 - (srtL (plL l)).getD j 0 < n) → (srtL (plL l)).getD k 0 - (srtL (plL l)).getD f 0 < n → pcP n (srtL (plL l)) (k + 1) = pcP n (srtL (plL l)) k + (k - f)) := fun k f h1 h2 h3 h4 => pcP_step HSr.out (by rw [HSl.out]; exact h1) h2 h3 h4
    have CP := fun (Z : World) (hZ : Below w.heap.size w Z) => places_any A c l Z (hA.keep hZ) (by omega)
    have CS : Hid (∀ (O : Option Addr) (Z Z1 : World), Z1.ownsRow Z.heap.size 3 1 (.slice O l.length l.length) l.length (iVals .i64 (plL l)) → Below Z.heap.size Z Z1 → Calls Tryd.prog 21 #[.slice O l.length l.length] Z1 fun e w2 => e = .returned (.tuple #[]) ∧ w2.ownsRow Z.heap.size 3 1 (.slice O l.length l.length) l.length (iVals .i64 (srtL (plL l))) ∧ Below Z.heap.size Z w2) := fun O Z Z1 h1 h2 => by
      have := psort_any (plL l) O l.length Z Z1 (by rw [plL_len]; exact h1) h2 (by rw [plL_len]; omega)
      rw [plL_len] at this
      exact this
    rw [hwi] at CW
    rw [HR.out]
    clear hA HR hwi hm
    generalize srtL (plL l) = S at *
    go_enter Tryd.func9, Tryd.ntmps9
    go_upto_region 3 with (go_at_call 15; refine CW.mono ?_; rintro e w1 ⟨rfl, hb⟩; have HB1 : Hid (Below w.heap.size w w1) := hb; clear hb)
    clear CW
    go_upto_region 4 with (go_at_call 20; refine (CP _ HB1.out).mono ?_; rintro e w2 ⟨O, rfl, hr2, hb2⟩; have HR2 : Hid (w2.ownsRow w1.heap.size 3 1 (.slice O l.length l.length) l.length (iVals .i64 (plL l))) := hr2; have HB2 : Hid (Below w1.heap.size w1 w2) := hb2; clear hr2 hb2)
    have C5 := CS.out O _ _ HR2.out HB2.out
    clear CP CS HR2 HB2
    go_upto_region 5 with (go_at_call 21; refine C5.mono ?_; rintro e w5 ⟨rfl, hr5, hb5⟩; have HR5 : Hid (w5.ownsRow w1.heap.size 3 1 (.slice O l.length l.length) l.length (iVals .i64 S)) := hr5; have HB5 : Hid (Below w1.heap.size w1 w5) := hb5; clear hr5 hb5)
    clear C5
    have HBw : Hid (Below w.heap.size w w5) := lb_trans HB1.out HB5.out
    have HNt : Hid (∀ (Z : World), Below w5.heap.size w5 Z → ∀ j, j < l.length → ∃ g, O = some ⟨g, 0, none⟩ ∧ Z.cell? ⟨g, j, none⟩ = some (.int .i64 (S.getD j 0))) := fun Z hZ j hj => by
      rcases HR5.out.2 with ⟨e0, h0⟩ | ⟨g, cap, cur, e0, hb, hg, hn, hm, hsz, htake⟩
      · omega
      · rw [Value.slice.injEq] at e0
        obtain ⟨rfl, -, rfl⟩ := e0
        refine ⟨g, rfl, lkeep hZ ?_⟩
        have := HR5.out.cells rfl j (.int .i64 (S.getD j 0)) (by simp [iVals, HSl.out, hj])
        rw [Addr.add_lit, Nat.zero_add] at this
        exact this
    clear HR5 HB5 HB1
    go_wp2
    go_loopw [6, 7, 19] (fun vp vf vk wr => ∃ (k f : Nat), vk = .int .i64 (k : Int) ∧ vf = .int .i64 (f : Int) ∧ vp = .int .i64 ((pcP n S k : Nat) : Int) ∧ k ≤ l.length ∧ f ≤ k ∧ Hid (∀ j, j < f → ∀ i, k ≤ i → i < l.length → n ≤ S.getD i 0 - S.getD j 0) ∧ Hid (Below w5.heap.size w5 wr)) (fun _ _ vk _ => l.length - (intOf vk).toNat)
    case atStart => exact ⟨0, 0, rfl, rfl, rfl, Nat.zero_le _, Nat.le_refl _, (fun j hj => absurd hj (Nat.not_lt_zero _)), Below.refl _ _⟩
    case round =>
      obtain ⟨k, f, rfl, rfl, rfl, hk, hf, HF, HB⟩ := hrel
      by_cases hlt : k < l.length
      · have hlt' : (k : Int) < (l.length : Int) := by omega
        have hk0 : (0 : Int) ≤ (k : Int) := by omega
        have hpb := HPb.out k hk
        generalize hpc : pcP n S k = pc at *
        go_wp2
        go_loopw [7] (fun vf ws => ∃ f : Nat, vf = .int .i64 (f : Int) ∧ f ≤ k ∧ Hid (∀ j, j < f → ∀ i, k ≤ i → i < l.length → n ≤ S.getD i 0 - S.getD j 0) ∧ Hid (Below w5.heap.size w5 ws)) (fun vf _ => k + 1 - (intOf vf).toNat)
        case atStart => exact ⟨f, rfl, hf, HF, HB⟩
        case round =>
          clear HF HB hf
          obtain ⟨f, rfl, hf, HF, HB⟩ := hrel
          obtain ⟨ws, hws⟩ : ∃ ws, ws = wr := ⟨_, rfl⟩
          subst hws
          obtain ⟨g, eg, q1⟩ := HNt.out _ HB.out f (by omega)
          subst eg
          obtain ⟨g', eg', q2⟩ := HNt.out _ HB.out k hlt
          cases eg'
          have hf0 : (0 : Int) ≤ (f : Int) := by omega
          have hfl : (f : Int) < (l.length : Int) := by omega
          have b1 := HSb.out f (by omega)
          have b2 := HSb.out k hlt
          have hle : S.getD f 0 ≤ S.getD k 0 := srt_at HSr.out hf (by rw [HSl.out]; exact hlt)
          have C := fun (Z : World) => povl_any n (S.getD f 0) (S.getD k 0) Z b1 b2
          have hD : ovD n (S.getD f 0) (S.getD k 0) = decide (S.getD k 0 - S.getD f 0 < n) := by
            unfold ovD
            rw [show max (S.getD f 0) (S.getD k 0) - min (S.getD f 0) (S.getD k 0) = S.getD k 0 - S.getD f 0 by omega]
          by_cases hc : S.getD k 0 - S.getD f 0 < n
          · rw [hD, decide_eq_true hc] at C
            have HPC : Hid (pcP n S (k + 1) = pc + (k - f)) := by
              unfold Hid
              rw [← hpc]
              exact HSt.out k f hlt hf (fun j hj => by have := HF.out j hj k (Nat.le_refl _) hlt; omega) hc
            have HF3 : Hid (∀ j, j < f → ∀ i, k + 1 ≤ i → i < l.length → n ≤ S.getD i 0 - S.getD j 0) := fun j hj i hi hil => HF.out j hj i (by omega) hil
            have hkf : (0 : Int) ≤ (k : Int) - (f : Int) ∧ (k : Int) - (f : Int) ≤ 65536 := by omega
            clear hD hc hle b1 b2 HF HSt hpc
            obtain ⟨x1, hx1⟩ : ∃ x, Hid (S.getD f 0 = x) := ⟨_, rfl⟩
            obtain ⟨x2, hx2⟩ : ∃ x, Hid (S.getD k 0 = x) := ⟨_, rfl⟩
            rw [hx1.out] at q1 C
            rw [hx2.out] at q2 C
            go_upto_region 9 with fail
            go_region_held3 (fun Z => Below ws.heap.size ws Z ∧ Z.cell? ⟨g, f, none⟩ = some (.int .i64 x1) ∧ Z.cell? ⟨g, k, none⟩ = some (.int .i64 x2)) (first | exact ⟨(Below.refl _ _).drew, q1, q2⟩ | assumption) (first | (go_at_call 22; refine (C _).mono ?_; rintro e w6 ⟨rfl, rfl⟩))
            all_goals (
              rename_i hS
              have HBS : Hid (Below ws.heap.size ws _) := hS.1
              clear hS
              go_wp2
              exact ⟨⟨k + 1, f, by go_num, rfl, by rw [HPC.out]; congr 1; omega, by omega, by omega, HF3, lb_trans HB.out HBS.out⟩, by simp [intOf]; omega⟩)
          · rw [hD, decide_eq_false hc] at C
            have HC : Hid (n ≤ S.getD k 0 - S.getD f 0) := by unfold Hid; omega
            have hfk : f < k := by
              by_cases c : f = k
              · subst c; omega
              · omega
            have HF2 : Hid (∀ j, j < f + 1 → ∀ i, k ≤ i → i < l.length → n ≤ S.getD i 0 - S.getD j 0) := fun j hj i hi hil => by
              by_cases c : j = f
              · subst c
                have h1 := srt_at HSr.out hi (by rw [HSl.out]; exact hil)
                have h2 := HC.out
                omega
              · exact HF.out j (by omega) i hi hil
            clear hD hc hle b1 b2 HF
            obtain ⟨x1, hx1⟩ : ∃ x, Hid (S.getD f 0 = x) := ⟨_, rfl⟩
            obtain ⟨x2, hx2⟩ : ∃ x, Hid (S.getD k 0 = x) := ⟨_, rfl⟩
            rw [hx1.out] at q1 C
            rw [hx2.out] at q2 C
            go_upto_region 9 with fail
            go_region_held3 (fun Z => Below ws.heap.size ws Z ∧ Z.cell? ⟨g, f, none⟩ = some (.int .i64 x1) ∧ Z.cell? ⟨g, k, none⟩ = some (.int .i64 x2)) (first | exact ⟨(Below.refl _ _).drew, q1, q2⟩ | assumption) (first | (go_at_call 22; refine (C _).mono ?_; rintro e w6 ⟨rfl, rfl⟩))
            all_goals (
              rename_i hS
              have HBS : Hid (Below ws.heap.size ws _) := hS.1
              clear hS
              go_wp2
              go_roundw
              case rel => exact ⟨f + 1, by go_num, by omega, HF2, lb_trans HB.out HBS.out⟩
              case measure => simp [intOf]; omega)
      · obtain rfl : k = l.length := by omega
        have hlt' : ¬ (l.length : Int) < (l.length : Int) := by omega
        have HE : Hid (Below w.heap.size w wr) := lb_trans HBw.out HB.out
        clear HB HF
        go_wp2
        go_ret
        exact ⟨rfl, HE.out⟩

end Go.Proofs.YtkdafkdogmemcaaDoor

namespace Go.Proofs.YtkdafkdogmemcaaDoor
open Go.RowKit

def L5 : List Spt := [(0, 0, 0), (1, 0, 0), (2, 0, 0), (3, 0, 0), (4, 0, 0)]
theorem L5_ap : apR 2 L5 = [(0, 0, 0), (2, 0, 0), (4, 0, 0)] := by decide
theorem L5_ov : ovR 2 L5 = 4 := by decide
def WkP (w : World) (e : Ending) (w' : World) : Prop := e = .returned (.bool true) ∧ Below w.heap.size w w'
set_option maxRecDepth 100000 in
set_option maxHeartbeats 4000000 in
theorem works_any (w : World) : Calls Tryd.prog 4 #[] w (WkP w) := by
  obtain ⟨W, HW⟩ : ∃ W, Hid (w.alloc (.cells #[.int .i64 0, .int .i8 0, .int .i8 0, .int .i64 1, .int .i8 0, .int .i8 0, .int .i64 2, .int .i8 0, .int .i8 0, .int .i64 3, .int .i8 0, .int .i8 0, .int .i64 4, .int .i8 0, .int .i8 0] 53) = W) := ⟨_, rfl⟩
  have HB : Hid (Below w.heap.size w W) := by unfold Hid; rw [← HW.out]; exact lb_alloc (Below.refl _ _) _
  have HA : Hid (SpAt W (some ⟨w.heap.size, 0, none⟩) L5) := fun j hj => by
    rw [← HW.out]
    have hq : j = 0 ∨ j = 1 ∨ j = 2 ∨ j = 3 ∨ j = 4 := by
      have : L5.length = 5 := rfl
      omega
    rcases hq with rfl | rfl | rfl | rfl | rfl <;> exact ⟨_, rfl, by simp [go_sem, L5, spt, Addr.add], by simp [go_sem, L5, spt, Addr.add], by simp [go_sem, L5, spt, Addr.add]⟩
  have C1 := papart_any 2 (some ⟨w.heap.size, 0, none⟩) 5 L5 W HA.out (by decide)
  rw [L5_ap] at C1
  have C2 := fun Z (hZ : Below W.heap.size W Z) => poverlaps_any 2 (some ⟨w.heap.size, 0, none⟩) 5 L5 Z (HA.out.keep hZ) (by decide)
  rw [L5_ov] at C2
  have e5 : L5.length = 5 := rfl
  rw [e5] at C1 C2
  clear e5 HA
  go_enter Tryd.func4, Tryd.ntmps4
  go_upto_region 2 with fail
  rw [HW.out]
  clear HW
  go_wp2_with fail
  refine C1.mono ?_
  rintro e w1 ⟨X, k, rfl, h1, h2⟩
  obtain ⟨a, ea, c0, -, -⟩ := (row_sps (R := [(0, 0, 0), (2, 0, 0), (4, 0, 0)]) h1) 1 (by decide)
  subst ea
  have c1 : w1.cell? (a.add 3) = some (.int .i64 2) := c0
  have c2 : w1.cell? ⟨a.block, a.off + 3, none⟩ = some (.int .i64 2) := c0
  have HB1 : Hid (Below W.heap.size W w1) := h2
  clear h1 h2 C1 c0
  go_wp2_with fail
  refine (C2 _ HB1.out).mono ?_
  rintro e w2 ⟨rfl, hb2⟩
  have HB2 : Hid (Below w.heap.size w w2) := lb_trans HB.out (lb_trans HB1.out hb2)
  clear hb2 C2
  go_wp2
  go_ret
  exact ⟨rfl, HB2.out⟩

end Go.Proofs.YtkdafkdogmemcaaDoor

namespace Go.Proofs.YtkdafkdogmemcaaDoor


section
variable {P : Program}
/-- An append of something: in place, or in a block made now with all the others as they were. -/
theorem run_append_two (w : World) (t ty e : TypeId) (i : TypeInfo) (z : Value) (size bytes : Nat) (ht : P.underlying t = some (.slice e)) (hi : P.info? e = some i) (hz : i.zero = some z)
    (hsize : i.size = size) (hby : i.bytes = bytes) (hzs : z.cells.size = size) (hsz : 0 < size)
    (v : Value) (n : Nat) (xs : List Value) (hown : w.ownsRow 0 e size v n xs)
    (a : Addr) (m c : Nat) (news : List Value) (hl : news.length = m * size) (hnews : ∀ j u, news[j]? = some u → w.cell? (a.add j) = some u) (h1 : ∀ u ∈ news, u.oneCell' = true)
    (hm : 0 < m) (h63 : n + m ≤ maxLen) (hbytes : (n + m) * bytes ≤ 140737488355328) :
    ∃ g cap w', (Builtin.append_ #[t, t] ty #[v, .slice (some a) m c]).run P w = .ok (.slice (some ⟨g, 0, none⟩) (n + m) cap) w' ∧
      w'.ownsRow 0 e size (.slice (some ⟨g, 0, none⟩) (n + m) cap) (n + m) (xs ++ news) ∧ w.grownBy w' v.ownBlock ∧ (v = .slice (some ⟨g, 0, none⟩) n cap ∨ (g = w.heap.size ∧ w.grownBy w' none)) := by
  obtain ⟨g', cap', w', hr, h2, h3, h4, _⟩ := run_append_lies (P := P) w t ty 0 e i z size bytes ht hi hz hsize hby hzs hsz v n xs hown a m c news hl hnews h1 hm h63 hbytes (Nat.zero_le _) _ rfl
  rcases hown.2 with ⟨rfl, rfl⟩ | ⟨g, cap, cur, rfl, hbg, hg, hnc, hcm, hcs, htake⟩
  · refine ⟨g', cap', w', hr, h2, h3, .inr ⟨?_, h3⟩⟩
    rcases h4 with h4 | h4
    · cases h4
    · exact h4
  · by_cases hroom : n + m ≤ cap
    · obtain ⟨w2, hr2, h5, h6⟩ := run_append_fits (P := P) w 0 t ty e i size ht hi hsize g n cap xs hown a m c news hl hnews h1 hroom
      exact ⟨g, cap, w2, hr2, h5, h6, .inl rfl⟩
    · subst hsize hby
      have hr2 := run_append_grow (P := P) w t ty e i z ht hi hz ⟨g, 0, none⟩ n cap xs hown.1 (hown.cells (g := g) rfl) a m c news hl hnews (by omega) (by simp only [maxLen] at h63; omega) (growslice_fits (by omega) hbytes)
      have e2 := hr.symm.trans hr2
      simp only [Result.ok.injEq, Value.slice.injEq, Option.some.injEq, Addr.mk.injEq, and_true, true_and] at e2
      obtain ⟨⟨e3, _⟩, e4⟩ := e2
      refine ⟨g', cap', w', hr, h2, h3, .inr ⟨e3, ?_⟩⟩
      rw [e4]
      exact ⟨rfl, rfl, rfl, by simp, fun k hk _ => Go.RowKit.Below.heap_alloc w.drew _ k hk⟩
theorem wp_append_two (w : World) {o : Oper} {a : Act} {K : Act → World → Prop} {Q : Exit → Act → World → Prop} (s x : Operand) (t : TypeId)
    (ho : o.op = .call { callee := .builtin .append, args := #[s, x], argTypes := #[t, t] })
    (e : TypeId) (i : TypeInfo) (z : Value) (size bytes : Nat) (ht : P.underlying t = some (.slice e)) (hi : P.info? e = some i) (hz : i.zero = some z)
    (hsize : i.size = size) (hby : i.bytes = bytes) (hzs : z.cells.size = size) (hsz : 0 < size)
    (v : Value) (n : Nat) (xs : List Value) (hs : a.eval s = v) (hown : w.ownsRow 0 e size v n xs)
    (ad : Addr) (m c : Nat) (news : List Value) (hx : a.eval x = .slice (some ad) m c) (hl : news.length = m * size) (hnews : ∀ j u, news[j]? = some u → w.cell? (ad.add j) = some u) (h1 : ∀ u ∈ news, u.oneCell' = true)
    (hm : 0 < m) (h63 : n + m ≤ maxLen) (hbytes : (n + m) * bytes ≤ 140737488355328)
    (h : ∀ g cap w', w'.ownsRow 0 e size (.slice (some ⟨g, 0, none⟩) (n + m) cap) (n + m) (xs ++ news) → w.grownBy w' v.ownBlock → (v = .slice (some ⟨g, 0, none⟩) n cap ∨ (g = w.heap.size ∧ w.grownBy w' none)) → K (a.put o.dst (.slice (some ⟨g, 0, none⟩) (n + m) cap)) w') : o.wp P a w K Q := by
  obtain ⟨g, cap, w', hr, h2, h3, h4⟩ := run_append_two (P := P) w t o.type e i z size bytes ht hi hz hsize hby hzs hsz v n xs hown ad m c news hl hnews h1 hm h63 hbytes
  unfold Oper.wp execOp
  simp only [ho, resolve, invoke, builtin, Sem.run_bind, Sem.run_pure, Result.andThen_ok, List.map_toArray, List.map_cons, List.map_nil, hs, hx, hr]
  exact h g cap w' h2 h3 h4
theorem wpList_append_two (w : World) {ops : Array Oper} {rest : List Oper} {o : Oper} {a : Act} {Q : Exit → Act → World → Prop} (hgd : o.guard = none) (s x : Operand) (t : TypeId)
    (ho : o.op = .call { callee := .builtin .append, args := #[s, x], argTypes := #[t, t] })
    (e : TypeId) (i : TypeInfo) (z : Value) (size bytes : Nat) (ht : P.underlying t = some (.slice e)) (hi : P.info? e = some i) (hz : i.zero = some z)
    (hsize : i.size = size) (hby : i.bytes = bytes) (hzs : z.cells.size = size) (hsz : 0 < size)
    (v : Value) (n : Nat) (xs : List Value) (hs : a.eval s = v) (hown : w.ownsRow 0 e size v n xs)
    (ad : Addr) (m c : Nat) (news : List Value) (hx : a.eval x = .slice (some ad) m c) (hl : news.length = m * size) (hnews : ∀ j u, news[j]? = some u → w.cell? (ad.add j) = some u) (h1 : ∀ u ∈ news, u.oneCell' = true)
    (hm : 0 < m) (h63 : n + m ≤ maxLen) (hbytes : (n + m) * bytes ≤ 140737488355328)
    (h : ∀ g cap w', w'.ownsRow 0 e size (.slice (some ⟨g, 0, none⟩) (n + m) cap) (n + m) (xs ++ news) → w.grownBy w' v.ownBlock → (v = .slice (some ⟨g, 0, none⟩) n cap ∨ (g = w.heap.size ∧ w.grownBy w' none)) → wpList P ops Q rest (a.put o.dst (.slice (some ⟨g, 0, none⟩) (n + m) cap)) w') : wpList P ops Q (o :: rest) a w :=
  wpList_plain hgd fun _ hK => wp_append_two w s x t ho e i z size bytes ht hi hz hsize hby hzs hsz v n xs hs hown ad m c news hx hl hnews h1 hm h63 hbytes fun g cap w' h2 h3 h4 => hK _ _ (h g cap w' h2 h3 h4)
end

/-- L marks of the list n. -/
def marks (mk : Nat → Nat → List Value) (n L : Nat) : List Value := (List.range L).flatMap (mk n)
theorem marks_zero (mk : Nat → Nat → List Value) (n : Nat) : marks mk n 0 = [] := rfl
theorem marks_succ (mk : Nat → Nat → List Value) (n L : Nat) : marks mk n (L + 1) = marks mk n L ++ mk n L := by simp [marks, List.range_succ]
theorem marks_len {mk : Nat → Nat → List Value} {size : Nat} (h : ∀ n i, (mk n i).length = size) (n L : Nat) : (marks mk n L).length = L * size := by
  induction L with
  | zero => simp [marks]
  | succ L ih => rw [marks_succ, List.length_append, ih, h, Nat.succ_mul]
theorem marks_take {mk : Nat → Nat → List Value} {size : Nat} (h : ∀ n i, (mk n i).length = size) (n : Nat) {L M : Nat} (hL : L ≤ M) : (marks mk n M).take (L * size) = marks mk n L := by
  induction M with
  | zero =>
    obtain rfl : L = 0 := by omega
    simp [marks]
  | succ M ih =>
    by_cases e : L = M + 1
    · subst e
      rw [List.take_of_length_le (by rw [marks_len h]; exact Nat.le_refl _)]
    · rw [marks_succ, List.take_append_of_le_length (by rw [marks_len h]; exact Nat.mul_le_mul_right _ (by omega))]
      exact ih (by omega)
theorem marks_get {mk : Nat → Nat → List Value} {size : Nat} (h : ∀ n i, (mk n i).length = size) (n : Nat) {L i j : Nat} (hi : i < L) (hj : j < size) : (marks mk n L)[i * size + j]? = (mk n i)[j]? := by
  have h1 : (marks mk n (i + 1))[i * size + j]? = (mk n i)[j]? := by
    rw [marks_succ, List.getElem?_append_right (by rw [marks_len h]; omega), marks_len h]
    congr 1
    omega
  rw [← h1, ← marks_take h n (show i + 1 ≤ L by omega), List.getElem?_take, if_pos (by rw [Nat.succ_mul]; omega)]

/-- A row stays where another block grows. -/
theorem own_apart {w w' : World} {base : Nat} {e : TypeId} {size : Nat} {v : Value} {n : Nat} {xs : List Value} {row : Option Nat} (h : w.ownsRow base e size v n xs) (hg : w.grownBy w' row) (hne : ∀ b, v.ownBlock = some b → row ≠ some b) : w'.ownsRow base e size v n xs := by
  refine h.kept hg ?_
  cases hv : v.ownBlock with
  | none => exact .inl rfl
  | some b => exact .inr (fun e => hne b hv e.symm)
/-- What lies in a block's cells is of one kind. -/
theorem own_block {w : World} {base : Nat} {e : TypeId} {size : Nat} {v : Value} {n : Nat} {xs : List Value} (h : w.ownsRow base e size v n xs) {b : Nat} (hb : v.ownBlock = some b) : ∃ cur, w.heap[b]? = some (.cells cur e (0, 0)) := by
  rcases h.2 with ⟨rfl, _⟩ | ⟨g, cap, cur, rfl, _, hg, _⟩
  · cases hb
  · cases hb
    exact ⟨cur, hg⟩
/-- A row of one kind is not a block of another. -/
def Not (w : World) (e : TypeId) (row : Option Nat) : Prop := ∀ b, row = some b → ∀ cur, w.heap[b]? ≠ some (.cells cur e (0, 0))
theorem own_other {w w' : World} {base : Nat} {e : TypeId} {size : Nat} {v : Value} {n : Nat} {xs : List Value} {row : Option Nat} (h : w.ownsRow base e size v n xs) (hg : w.grownBy w' row) (hne : Not w e row) : w'.ownsRow base e size v n xs :=
  own_apart h hg fun b hb hr => by
    obtain ⟨cur, hc⟩ := own_block h hb
    exact hne b hr cur hc
theorem own_not {w : World} {base : Nat} {e : TypeId} {size : Nat} {v : Value} {n : Nat} {xs : List Value} (h : w.ownsRow base e size v n xs) {e' : TypeId} (hne : e ≠ e') : Not w e' v.ownBlock := fun b hb cur hc => by
  obtain ⟨c2, hc2⟩ := own_block h hb
  rw [hc2] at hc
  simp only [Option.some.injEq, Obj.cells.injEq] at hc
  exact hne hc.2.1

/-- A bag's rows: each a value and its length. -/
def rv (rs : List (Value × Nat)) (m : Nat) : Value := (rs.getD m (.slice none 0 0, 0)).1
def rl (rs : List (Value × Nat)) (m : Nat) : Nat := (rs.getD m (.slice none 0 0, 0)).2
def vn (os : List Value) (m : Nat) : Value := os.getD m (.slice none 0 0)
theorem vn_map (rs : List (Value × Nat)) (m : Nat) (h : m < rs.length) : vn (rs.map Prod.fst) m = rv rs m := by simp [vn, rv, h]
theorem vn_last (os : List Value) (x : Value) : vn (os ++ [x]) os.length = x := by simp [vn]
theorem vn_old (os : List Value) (x : Value) (j : Nat) (h : j < os.length) : vn (os ++ [x]) j = vn os j := by
  unfold vn
  rw [List.getD_eq_getElem?_getD, List.getD_eq_getElem?_getD, List.getElem?_append_left h]
/-- Two lists of lists that lie apart, by blocks. -/
def Off (a b : Option Nat) : Prop := ∀ k, a = some k → b ≠ some k
theorem Off.symm {a b : Option Nat} (h : Off a b) : Off b a := fun k hb ha => h k ha hb

section
variable (T TS : TypeId) (size : Nat) (mk : Nat → Nat → List Value) (rs : List (Value × Nat))
/-- What is held: a bag's row, or one grown by one, or by seventy. -/
def Held (os ms : List Value) (v : Value) (k L : Nat) : Prop :=
  (k < rs.length ∧ v = rv rs k ∧ L = rl rs k) ∨ (k < os.length ∧ v = vn os k ∧ L = rl rs k + 1) ∨ (k < ms.length ∧ v = vn ms k ∧ L = rl rs k + 70)
/-- The three lists of lists. -/
structure Three (w : World) (V O M : Value) (os ms : List Value) : Prop where
  bag : w.ownsRow 0 TS 1 V rs.length (rs.map Prod.fst)
  one : w.ownsRow 0 TS 1 O os.length os
  more : w.ownsRow 0 TS 1 M ms.length ms
  vo : Off V.ownBlock O.ownBlock
  vm : Off V.ownBlock M.ownBlock
  om : Off O.ownBlock M.ownBlock
/-- All that is other: the bag's rows, and what is new. -/
structure Fr (w0 w : World) : Prop where
  os : w.os = w0.os
  tape : w.tape = w0.tape
  output : w.output = w0.output
  size : w0.heap.size ≤ w.heap.size
  block : ∀ b, b < w0.heap.size → (∀ m, m < rs.length → (rv rs m).ownBlock ≠ some b) → w.heap[b]? = w0.heap[b]?
/-- Whose block it may be. -/
def Mine (w0 : World) (row : Option Nat) : Prop := ∀ b, row = some b → w0.heap.size ≤ b ∨ ∃ m, m < rs.length ∧ (rv rs m).ownBlock = some b
/-- Ahead of the list n. -/
structure Out (w0 w : World) (n : Nat) (V O M : Value) (os ms : List Value) : Prop where
  three : Three TS rs w V O M os ms
  fr : Fr rs w0 w
  mo : Mine rs w0 O.ownBlock
  mm : Mine rs w0 M.ownBlock
  held : ∀ v k L, Held rs os ms v k L → w.ownsRow 0 T size v L (marks mk k L) ∧ ∀ m, n ≤ m → m < rs.length → ∀ b, v.ownBlock = some b → (rv rs m).ownBlock = some b → L ≤ rl rs m
/-- At the list n, grown to i. -/
structure Ap (w0 w : World) (n : Nat) (V O M : Value) (os ms : List Value) (l : Value) (i : Nat) : Prop where
  out : Out T TS size mk rs w0 w (n + 1) V O M os ms
  cur : w.ownsRow 0 T size l i (marks mk n i)
  my : Mine rs w0 l.ownBlock
  far : ∀ m, n + 1 ≤ m → m < rs.length → Off l.ownBlock (rv rs m).ownBlock
  safe : ∀ v k L, Held rs os ms v k L → ∀ b, v.ownBlock = some b → l.ownBlock = some b → L ≤ i

variable {T TS size mk rs}
theorem Fr.grown {w0 w w' : World} {row : Option Nat} (h : Fr rs w0 w) (hg : w.grownBy w' row) (hm : Mine rs w0 row) : Fr rs w0 w' := by
  refine ⟨hg.os.trans h.os, hg.tape.trans h.tape, hg.output.trans h.output, Nat.le_trans h.size hg.size, fun b hb hn => ?_⟩
  rw [hg.block b (Nat.lt_of_lt_of_le hb h.size) (fun e => ?_), h.block b hb hn]
  rcases hm b e.symm with h1 | ⟨m, h1, h2⟩
  · omega
  · exact hn m h1 h2
theorem Three.other {w w' : World} {V O M : Value} {os ms : List Value} {row : Option Nat} (h : Three TS rs w V O M os ms) (hg : w.grownBy w' row) (hn : Not w TS row) : Three TS rs w' V O M os ms :=
  ⟨own_other h.bag hg hn, own_other h.one hg hn, own_other h.more hg hn, h.vo, h.vm, h.om⟩
/-- A block's number, of one that is owned. -/
theorem own_lt {w : World} {base : Nat} {e : TypeId} {size : Nat} {v : Value} {n : Nat} {xs : List Value} (h : w.ownsRow base e size v n xs) {b : Nat} (hb : v.ownBlock = some b) : b < w.heap.size := (h.lt b hb).2
/-- Where a row is behind an append. -/
def Grew (w w' : World) (v : Value) (n g cap : Nat) : Prop := v = .slice (some ⟨g, 0, none⟩) n cap ∨ (g = w.heap.size ∧ w.grownBy w' none)
theorem Grew.off {w w' : World} {v : Value} {n g cap n' : Nat} {base : Nat} {e : TypeId} {size : Nat} {u : Value} {k : Nat} {xs : List Value} (h : Grew w w' v n g cap) (hu : w.ownsRow base e size u k xs) (ho : Off u.ownBlock v.ownBlock) : Off u.ownBlock (Value.slice (some ⟨g, 0, none⟩) n' cap).ownBlock := by
  rcases h with rfl | ⟨rfl, _⟩
  · exact ho
  · intro b hb e
    have := own_lt hu hb
    simp only [Value.ownBlock, Option.some.injEq] at e
    omega
theorem Grew.mine {w w' w0 : World} {v : Value} {n g cap n' : Nat} (h : Grew w w' v n g cap) (hs : w0.heap.size ≤ w.heap.size) (hm : Mine rs w0 v.ownBlock) : Mine rs w0 (Value.slice (some ⟨g, 0, none⟩) n' cap).ownBlock := by
  rcases h with rfl | ⟨rfl, _⟩
  · exact hm
  · intro b e
    simp only [Value.ownBlock, Option.some.injEq] at e
    left
    omega
theorem Three.addOne {w w' : World} {V O M : Value} {os ms : List Value} {x : Value} {g cap : Nat} (h : Three TS rs w V O M os ms) (ho : w'.ownsRow 0 TS 1 (.slice (some ⟨g, 0, none⟩) (os.length + 1) cap) (os.length + 1) (os ++ [x])) (hg : w.grownBy w' O.ownBlock) (hw : Grew w w' O os.length g cap) :
    Three TS rs w' V (.slice (some ⟨g, 0, none⟩) (os.length + 1) cap) M (os ++ [x]) ms := by
  refine ⟨own_apart h.bag hg h.vo, by rw [List.length_append]; exact ho, own_apart h.more hg (fun b hb e => h.om b e hb), hw.off h.bag h.vo, h.vm, ?_⟩
  exact (hw.off h.more h.om.symm).symm
theorem Three.addMore {w w' : World} {V O M : Value} {os ms : List Value} {x : Value} {g cap : Nat} (h : Three TS rs w V O M os ms) (ho : w'.ownsRow 0 TS 1 (.slice (some ⟨g, 0, none⟩) (ms.length + 1) cap) (ms.length + 1) (ms ++ [x])) (hg : w.grownBy w' M.ownBlock) (hw : Grew w w' M ms.length g cap) :
    Three TS rs w' V O (.slice (some ⟨g, 0, none⟩) (ms.length + 1) cap) os (ms ++ [x]) := by
  refine ⟨own_apart h.bag hg h.vm, own_apart h.one hg h.om, by rw [List.length_append]; exact ho, h.vo, hw.off h.bag h.vm, ?_⟩
  exact hw.off h.one h.om
/-- A held row stays while the current one grows. -/
theorem held_grow (hmk : ∀ n i, (mk n i).length = size) (_hsz : 0 < size) {w w' : World} {v l : Value} {k L n i g cap : Nat} (hv : w.ownsRow 0 T size v L (marks mk k L)) (hl : w.ownsRow 0 T size l i (marks mk n i)) (hs : ∀ b, v.ownBlock = some b → l.ownBlock = some b → L ≤ i)
    (ho : w'.ownsRow 0 T size (.slice (some ⟨g, 0, none⟩) (i + 1) cap) (i + 1) (marks mk n (i + 1))) (hg : w.grownBy w' l.ownBlock) (hw : Grew w w' l i g cap) : w'.ownsRow 0 T size v L (marks mk k L) := by
  rcases hw with rfl | ⟨_, h0⟩
  · by_cases hb : v.ownBlock = some g
    · have hLi := hs g hb rfl
      refine ⟨hv.1, ?_⟩
      rcases hv.2 with h1 | ⟨gv, cv, cur, rfl, _, hgv, hLc, hcm, hcs, htk⟩
      · exact .inl h1
      · obtain rfl : gv = g := by simpa [Value.ownBlock] using hb
        rcases hl.2 with ⟨e1, _⟩ | ⟨g2, c2, cur2, e2, _, hg2, _, _, hcs2, htk2⟩
        · cases e1
        · cases e2
          rw [hgv] at hg2
          cases hg2
          rcases ho.2 with ⟨e1, _⟩ | ⟨g3, c3, cur3, e3, _, hg3, _, _, hcs3, htk3⟩
          · cases e1
          · cases e3
            refine .inr ⟨gv, cv, cur3, rfl, Nat.zero_le _, hg3, hLc, hcm, by omega, ?_⟩
            have a1 : cur3.toList.take (L * size) = marks mk n L := by
              have := congrArg (List.take (L * size)) htk3
              rwa [List.take_take, Nat.min_eq_left (Nat.mul_le_mul_right _ (by omega)), marks_take hmk n (by omega)] at this
            have a2 : cur.toList.take (L * size) = marks mk n L := by
              have := congrArg (List.take (L * size)) htk2
              rwa [List.take_take, Nat.min_eq_left (Nat.mul_le_mul_right _ hLi), marks_take hmk n hLi] at this
            rw [a1, ← a2, htk]
    · exact own_apart hv hg fun b hb' e => by
        have : b = g := by simpa [Value.ownBlock] using e.symm
        exact hb (this ▸ hb')
  · exact own_apart hv h0 fun b _ e => by cases e
theorem Out.other {w0 w w' : World} {n : Nat} {V O M : Value} {os ms : List Value} {row : Option Nat} (h : Out T TS size mk rs w0 w n V O M os ms) (hg : w.grownBy w' row) (hn : Not w TS row) (hn2 : Not w T row) (hm : Mine rs w0 row) : Out T TS size mk rs w0 w' n V O M os ms :=
  ⟨h.three.other hg hn, h.fr.grown hg hm, h.mo, h.mm, fun v k L hh => ⟨own_other (h.held v k L hh).1 hg hn2, (h.held v k L hh).2⟩⟩
/-- The current row grows by one. -/
theorem Ap.grow (hmk : ∀ n i, (mk n i).length = size) (hsz : 0 < size) (hT : T ≠ TS) {w0 w w' : World} {n : Nat} {V O M : Value} {os ms : List Value} {l : Value} {i g cap : Nat} (h : Ap T TS size mk rs w0 w n V O M os ms l i)
    (ho : w'.ownsRow 0 T size (.slice (some ⟨g, 0, none⟩) (i + 1) cap) (i + 1) (marks mk n i ++ mk n i)) (hg : w.grownBy w' l.ownBlock) (hw : l = .slice (some ⟨g, 0, none⟩) i cap ∨ (g = w.heap.size ∧ w.grownBy w' none)) : Ap T TS size mk rs w0 w' n V O M os ms (.slice (some ⟨g, 0, none⟩) (i + 1) cap) (i + 1) := by
  rw [← marks_succ] at ho
  have hw' : Grew w w' l i g cap := hw
  refine ⟨⟨h.out.three.other hg (own_not h.cur hT), h.out.fr.grown hg h.my, h.out.mo, h.out.mm, fun v k L hh => ⟨held_grow hmk hsz (h.out.held v k L hh).1 h.cur (h.safe v k L hh) ho hg hw', (h.out.held v k L hh).2⟩⟩, ho, hw'.mine h.out.fr.size h.my, fun m h1 h2 => ?_, fun v k L hh b hb e => ?_⟩
  · exact (hw'.off (h.out.held _ _ _ (.inl ⟨h2, rfl, rfl⟩)).1 (h.far m h1 h2).symm).symm
  · rcases hw' with rfl | ⟨rfl, _⟩
    · exact Nat.le_succ_of_le (h.safe v k L hh b hb e)
    · have := own_lt (h.out.held v k L hh).1 hb
      simp only [Value.ownBlock, Option.some.injEq] at e
      omega
/-- The row grown by one is kept. -/
theorem Ap.addOne (hT : T ≠ TS) {w0 w w' : World} {n : Nat} {V O M : Value} {os ms : List Value} {l : Value} {i g cap : Nat} (h : Ap T TS size mk rs w0 w n V O M os ms l i) (hi : i = rl rs n + 1) (hos : os.length = n)
    (ho : w'.ownsRow 0 TS 1 (.slice (some ⟨g, 0, none⟩) (os.length + 1) cap) (os.length + 1) (os ++ [l])) (hg : w.grownBy w' O.ownBlock) (hw : O = .slice (some ⟨g, 0, none⟩) os.length cap ∨ (g = w.heap.size ∧ w.grownBy w' none)) :
    Ap T TS size mk rs w0 w' n V (.slice (some ⟨g, 0, none⟩) (os.length + 1) cap) M (os ++ [l]) ms l i := by
  have hw' : Grew w w' O os.length g cap := hw
  have hno := own_not h.out.three.one (e' := T) hT.symm
  have hc : w'.ownsRow 0 T size l i (marks mk n i) := own_other h.cur hg hno
  have hd : ∀ v k L, Held rs (os ++ [l]) ms v k L → Held rs os ms v k L ∨ (v = l ∧ k = n ∧ L = i) := by
    rintro v k L (h1 | ⟨h1, h2, h3⟩ | h1)
    · exact .inl (.inl h1)
    · by_cases e : k < os.length
      · exact .inl (.inr (.inl ⟨e, by rw [h2, vn_old _ _ _ e], h3⟩))
      · obtain rfl : k = os.length := by simp at h1; omega
        rw [vn_last] at h2
        exact .inr ⟨h2, hos, by rw [h3, hos, hi]⟩
    · exact .inl (.inr (.inr h1))
  refine ⟨⟨h.out.three.addOne ho hg hw', h.out.fr.grown hg h.out.mo, hw'.mine h.out.fr.size h.out.mo, h.out.mm, fun v k L hh => ?_⟩, hc, h.my, h.far, fun v k L hh b hb e => ?_⟩
  · rcases hd v k L hh with hh | ⟨rfl, rfl, rfl⟩
    · exact ⟨own_other (h.out.held v k L hh).1 hg hno, (h.out.held v k L hh).2⟩
    · exact ⟨hc, fun m h1 h2 b hb e => absurd e (h.far m h1 h2 b hb)⟩
  · rcases hd v k L hh with hh | ⟨rfl, rfl, rfl⟩
    · exact h.safe v k L hh b hb e
    · exact Nat.le_refl _
/-- The row grown by seventy is kept: on to the next. -/
theorem Ap.addMore (hT : T ≠ TS) {w0 w w' : World} {n : Nat} {V O M : Value} {os ms : List Value} {l : Value} {i g cap : Nat} (h : Ap T TS size mk rs w0 w n V O M os ms l i) (hi : i = rl rs n + 70) (hms : ms.length = n)
    (ho : w'.ownsRow 0 TS 1 (.slice (some ⟨g, 0, none⟩) (ms.length + 1) cap) (ms.length + 1) (ms ++ [l])) (hg : w.grownBy w' M.ownBlock) (hw : M = .slice (some ⟨g, 0, none⟩) ms.length cap ∨ (g = w.heap.size ∧ w.grownBy w' none)) :
    Out T TS size mk rs w0 w' (n + 1) V O (.slice (some ⟨g, 0, none⟩) (ms.length + 1) cap) os (ms ++ [l]) := by
  have hw' : Grew w w' M ms.length g cap := hw
  have hno := own_not h.out.three.more (e' := T) hT.symm
  have hc : w'.ownsRow 0 T size l i (marks mk n i) := own_other h.cur hg hno
  refine ⟨h.out.three.addMore ho hg hw', h.out.fr.grown hg h.out.mm, h.out.mo, hw'.mine h.out.fr.size h.out.mm, fun v k L hh => ?_⟩
  have hd : Held rs os ms v k L ∨ (v = l ∧ k = n ∧ L = i) := by
    rcases hh with h1 | h1 | ⟨h1, h2, h3⟩
    · exact .inl (.inl h1)
    · exact .inl (.inr (.inl h1))
    · by_cases e : k < ms.length
      · exact .inl (.inr (.inr ⟨e, by rw [h2, vn_old _ _ _ e], h3⟩))
      · obtain rfl : k = ms.length := by simp at h1; omega
        rw [vn_last] at h2
        exact .inr ⟨h2, hms, by rw [h3, hms, hi]⟩
  rcases hd with hh | ⟨rfl, rfl, rfl⟩
  · exact ⟨own_other (h.out.held v k L hh).1 hg hno, (h.out.held v k L hh).2⟩
  · exact ⟨hc, fun m h1 h2 b hb e => absurd e (h.far m h1 h2 b hb)⟩
/-- The rows' blocks are different ones. -/
def Sep (rs : List (Value × Nat)) : Prop := ∀ m m', m < m' → m' < rs.length → Off (rv rs m).ownBlock (rv rs m').ownBlock
theorem Sep.eq (h : Sep rs) {m m' : Nat} (hm : m < rs.length) (hm' : m' < rs.length) {b : Nat} (h1 : (rv rs m).ownBlock = some b) (h2 : (rv rs m').ownBlock = some b) : m = m' := by
  rcases Nat.lt_trichotomy m m' with h3 | h3 | h3
  · exact absurd h2 (h m m' h3 hm' b h1)
  · exact h3
  · exact absurd h1 (h m' m h3 hm b h2)
/-- The next list is taken up. -/
theorem Out.take (hs : Sep rs) {w0 w : World} {n : Nat} {V O M : Value} {os ms : List Value} (h : Out T TS size mk rs w0 w n V O M os ms) (hn : n < rs.length) : Ap T TS size mk rs w0 w n V O M os ms (rv rs n) (rl rs n) := by
  have hh : Held rs os ms (rv rs n) n (rl rs n) := .inl ⟨hn, rfl, rfl⟩
  refine ⟨⟨h.three, h.fr, h.mo, h.mm, fun v k L h1 => ⟨(h.held v k L h1).1, fun m h2 => (h.held v k L h1).2 m (by omega)⟩⟩, (h.held _ _ _ hh).1, fun b hb => .inr ⟨n, hn, hb⟩, fun m h1 h2 => hs n m (by omega) h2, fun v k L h1 b hb e => (h.held v k L h1).2 n (Nat.le_refl _) hn b hb e⟩
/-- While the marks are being written: up to the place i of the list n. -/
def Wr (T : TypeId) (size : Nat) (mk : Nat → Nat → List Value) (rs : List (Value × Nat)) (w : World) (n i : Nat) : Prop :=
  ∀ m, m < rs.length → ∃ xs, w.ownsRow 0 T size (rv rs m) (rl rs m) xs ∧ (m < n → xs = marks mk m (rl rs m)) ∧ (m = n → xs.take (i * size) = marks mk n i)
/-- All marks stand. -/
theorem Wr.out (hs : Sep rs) {w0 w : World} {V : Value} (h : Wr T size mk rs w rs.length 0) (hV : w.ownsRow 0 TS 1 V rs.length (rs.map Prod.fst)) (hf : Fr rs w0 w) : Out T TS size mk rs w0 w 0 V (.slice none 0 0) (.slice none 0 0) [] [] := by
  refine ⟨⟨hV, World.ownsRow_nil _ _ _ _, World.ownsRow_nil _ _ _ _, fun b _ e => (by cases e), fun b _ e => (by cases e), fun b _ e => (by cases e)⟩, hf, fun b e => (by cases e), fun b e => (by cases e), fun v k L hh => ?_⟩
  rcases hh with ⟨h1, rfl, rfl⟩ | ⟨h1, _⟩ | ⟨h1, _⟩
  · obtain ⟨xs, hx, h2, _⟩ := h k h1
    rw [h2 h1] at hx
    exact ⟨hx, fun m _ h4 b hb hb' => by rw [hs.eq h1 h4 hb hb']; exact Nat.le_refl _⟩
  · simp at h1
  · simp at h1
theorem Wr.next {w : World} {n : Nat} (h : Wr T size mk rs w n (rl rs n)) : Wr T size mk rs w (n + 1) 0 := by
  intro m hm
  obtain ⟨xs, hx, h1, h2⟩ := h m hm
  refine ⟨xs, hx, fun h3 => ?_, fun _ => by simp [marks]⟩
  by_cases e : m < n
  · exact h1 e
  · obtain rfl : m = n := by omega
    rw [← h2 rfl, List.take_of_length_le (by rw [hx.1]; exact Nat.le_refl _)]
/-- A mark is written. -/
theorem Wr.step (hs : Sep rs) {w w' : World} {n i : Nat} (h : Wr T size mk rs w n i) (hn : n < rs.length) (hg : w.grownBy w' (rv rs n).ownBlock) (ho : ∀ xs, w.ownsRow 0 T size (rv rs n) (rl rs n) xs → xs.take (i * size) = marks mk n i → ∃ ys, w'.ownsRow 0 T size (rv rs n) (rl rs n) ys ∧ ys.take ((i + 1) * size) = marks mk n (i + 1)) : Wr T size mk rs w' n (i + 1) := by
  intro m hm
  obtain ⟨xs, hx, h1, h2⟩ := h m hm
  by_cases e : m = n
  · subst e
    obtain ⟨ys, hy, h3⟩ := ho xs hx (h2 rfl)
    exact ⟨ys, hy, fun h4 => absurd h4 (by omega), fun _ => h3⟩
  · refine ⟨xs, own_apart hx hg fun b hb e2 => e (hs.eq hm hn hb e2), h1, fun h4 => absurd h4 e⟩
end









end Go.Proofs.YtkdafkdogmemcaaDoor
