/-
  The document's within and overlap. The document's Apart. Apart. Overlaps.
-/
import Derived.Test.YtkdafkdogmemcaaProg
import Derived.WalkKit
import Derived.WalkSpells
import Derived.WalkLawsBesides
import Derived.RowKit3
import Derived.Below
import Derived.Deep.QuietTactic
import Derived.BigQuiet
import Derived.WalkSmall
import Derived.Laws.Rows
import Derived.Test.YtkdafkdogmemcaaPm03
import Derived.Deep.Cut
import Derived.OwnWalk
import Derived.Deep.RegionHeld3
import Derived.Deep.AppendLies
import Derived.Test.YtkdafkdogmemcaaPm08
import Derived.Test.YtkdafkdogmemcaaPm04
import Derived.Lib.OwnBridge
import Derived.Sort.OwnSortedInts
namespace Go.Proofs.Ytkdafkdogmemcaa
open Go.RowKit



end Go.Proofs.Ytkdafkdogmemcaa

namespace Go.Proofs.Ytkdafkdogmemcaa
open Go.RowKit

def SpsP (L : List Spt) (w : World) (e : Ending) (w' : World) : Prop := ∃ (A : Option Addr) (c : Nat), e = .returned (.slice A L.length c) ∧ w'.ownsRow w.heap.size 27 3 (.slice A L.length c) L.length (spNews L) ∧ Below w.heap.size w w'

end Go.Proofs.Ytkdafkdogmemcaa

namespace Go.Proofs.Ytkdafkdogmemcaa
open Go.RowKit

set_option maxRecDepth 100000 in
set_option maxHeartbeats 4000000 in
theorem papart_any (n : Int) (A : Option Addr) (c : Nat) (l : List Spt) (w : World) (hA : SpAt w A l) (hl : l.length ≤ 1048576) :
    Calls Try.prog 5 #[.int .i64 n, .slice A l.length c] w (SpsP (apR n l) w) := by
  have CW := maybe_any n A c l w hA hl
  cases hwi : wiB n l with
  | false =>
    have HR : Hid (apR n l = []) := by unfold Hid apR; rw [hwi, if_neg (by simp)]
    rw [hwi] at CW
    rw [HR.out]
    clear hA HR hwi
    go_enter Try.func5, Try.ntmps5
    go_wp2_with fail
    refine CW.mono ?_
    rintro e w1 ⟨rfl, hb⟩
    have HB : Hid (Below w.heap.size w w1) := hb
    clear hb
    go_wp2
    go_ret
    exact ⟨none, 0, rfl, World.ownsRow_nil _ _ _ _, HB.out⟩
  | true =>
    obtain ⟨hm, hn1, hn2⟩ := wi_mem hwi
    have HM : Hid (∀ s ∈ l, 0 ≤ s.1 ∧ s.1 ≤ 16384) := hm
    have HR : Hid (apR n l = apG n [] l) := by unfold Hid apR; rw [hwi, if_pos rfl]
    rw [hwi] at CW
    rw [HR.out]
    have HA : Hid (SpAt w A l) := hA
    clear hA HR hwi hm
    go_enter Try.func5, Try.ntmps5
    go_wp2_with fail
    refine CW.mono ?_
    rintro e w1 ⟨rfl, hb⟩
    have HB1 : Hid (Below w.heap.size w w1) := hb
    clear CW hb
    go_upto_region 4 with fail
    obtain ⟨w2, hw2⟩ : ∃ w2, w1.alloc (.cells #[.slice none 0 0, .slice none 0 0] 34) = w2 := ⟨_, rfl⟩
    have hk0 : KpAt w2 w1.heap.size w.heap.size none none 0 0 [] [] := by
      rw [← hw2]
      exact ⟨heap_alloc_new _ _, World.ownsRow_nil _ _ _ _, World.ownsRow_nil _ _ _ _⟩
    have HB2 : Hid (Below w.heap.size w w2) := by unfold Hid; rw [← hw2]; exact lb_alloc HB1.out _
    have hz1 := HB1.out.size
    rw [hw2]
    clear hw2
    go_wp2
    go_loopw [14] (fun vi wr => ∃ (i : Nat) (O : List Spt) (Q : List Int) (X Y : Option Addr) (ko kq : Nat), vi = .int .i64 (i : Int) ∧ i ≤ l.length ∧ O.length ≤ i ∧ Hid (apG n O (l.drop i) = apG n [] l) ∧ Hid (∀ s ∈ O, s ∈ l) ∧ Hid (KpP O Q) ∧ Hid (KpAt wr w1.heap.size w.heap.size X Y ko kq O Q) ∧ Hid (Below w.heap.size w wr)) (fun vi _ => l.length - (intOf vi).toNat)
    case atStart => exact ⟨0, [], [], none, none, 0, 0, rfl, Nat.zero_le _, Nat.le_refl _, rfl, (fun s h => by cases h), KpP.nil, hk0, HB2.out⟩
    case round =>
      obtain ⟨i, O, Q, X, Y, ko, kq, rfl, hin, hOi, HG, HS, HP, HK, HB⟩ := hrel
      by_cases hlt : i < l.length
      · have hlt' : (i : Int) < (l.length : Int) := by omega
        have hsm := HM.out _ (spt_mem hlt)
        have HGy : Hid (O.any (fun o => ovl n o (spt l i)) = false → apG n (O ++ [spt l i]) (l.drop (i + 1)) = apG n [] l) := fun h => by rw [← apG_yes hlt h]; exact HG.out
        have HGn : Hid (O.any (fun o => ovl n o (spt l i)) = true → apG n O (l.drop (i + 1)) = apG n [] l) := fun h => by rw [← apG_no hlt h]; exact HG.out
        have HAny : Hid (besB n Q (spt l i).1 = O.any (fun o => ovl n o (spt l i))) := HP.out.any (spt l i)
        have HSm : Hid (spt l i ∈ l) := spt_mem hlt
        obtain ⟨a, ea, p1, p2, p3⟩ := (HA.out.keep HB.out) i hlt
        subst ea
        clear HG
        generalize spt l i = s at *
        obtain ⟨s0, s1, s2⟩ := s
        simp only at hsm
        replace p1 : wr.cell? (a.add (i * 3)) = some (.int .i64 s0) := p1
        replace p2 : wr.cell? ⟨(a.add (i * 3)).block, (a.add (i * 3)).off + 1, none⟩ = some (.int .i8 s1) := p2
        replace p3 : wr.cell? ⟨(a.add (i * 3)).block, (a.add (i * 3)).off + 2, none⟩ = some (.int .i8 s2) := p3
        have hQl : Q.length ≤ 1048576 := by rw [HP.out.len]; omega
        have hOl : O.length ≤ 1048576 := by omega
        have C1 := fun (Z : World) (hZ : Below wr.heap.size wr Z) => poverl_any n s0 w1.heap.size w.heap.size X Y ko kq O Q Z (HK.out.keep hZ) HP.out.srt hQl hsm (fun p hp => by
          obtain ⟨r, hr, rfl⟩ := (HP.out.mem p).1 hp
          exact HM.out r (HS.out r hr))
        have C2 := fun (Z : World) (hZ : Below wr.heap.size wr Z) => keep_any w1.heap.size w.heap.size X Y ko kq O Q s0 s1 s2 Z (HK.out.keep hZ) HP.out.srt hQl hOl hz1
        have hbx : Below wr.heap.size wr (wr.alloc (.cells #[.int .i64 s0, .int .i8 s1, .int .i8 s2] 27)) := lb_alloc (Below.refl _ _) _
        replace HAny : Hid (besB n Q s0 = O.any (fun o => ovl n o (s0, s1, s2))) := HAny
        cases hb : O.any (fun o => ovl n o (s0, s1, s2)) with
        | true =>
          have HG2 : Hid (apG n O (l.drop (i + 1)) = apG n [] l) := HGn.out hb
          rw [HAny.out, hb] at C1
          clear HGy HGn HAny hb C2
          go_wp2_with (go_at_call 8; refine (C1 _ hbx).mono ?_; rintro e w5 ⟨rfl, hb5⟩; have HB5 : Hid (Below wr.heap.size wr w5) := lb_trans hbx hb5; clear hb5)
          go_roundw
          case rel => exact ⟨i + 1, O, Q, X, Y, ko, kq, by go_num, by omega, by omega, HG2, HS, HP, HK.out.keep HB5.out, lb_trans HB.out HB5.out⟩
          case measure => simp [intOf]; omega
        | false =>
          have HG2 : Hid (apG n (O ++ [(s0, s1, s2)]) (l.drop (i + 1)) = apG n [] l) := HGy.out hb
          have HS2 : Hid (∀ s ∈ O ++ [(s0, s1, s2)], s ∈ l) := fun s hs => by
            rcases List.mem_append.1 hs with h | h
            · exact HS.out s h
            · rw [List.mem_singleton.1 h]; exact HSm.out
          rw [HAny.out, hb] at C1
          have hbw : wr.heap.size < (wr.alloc (.cells #[.int .i64 s0, .int .i8 s1, .int .i8 s2] 27)).heap.size := by simp
          have q1 : (wr.alloc (.cells #[.int .i64 s0, .int .i8 s1, .int .i8 s2] 27)).heap[wr.heap.size]? = some (.cells #[.int .i64 s0, .int .i8 s1, .int .i8 s2] 27 (0, 0)) := heap_alloc_new _ _
          clear HGy HGn HAny hb
          go_wp2_with (first | (go_at_call 8; refine (C1 _ hbx).mono ?_; rintro e w5 ⟨rfl, hb5⟩; have HB5 : Hid (Below wr.heap.size wr w5) := lb_trans hbx hb5; have r1 := (hb5.block _ hbw).trans q1; have r2 : w5.cell? ⟨wr.heap.size, 0, none⟩ = some (.int .i64 s0) := (cell_of_row w5 _ 0 _ _ (0, 0) r1).trans rfl; have r3 : w5.cell? ⟨wr.heap.size, 1, none⟩ = some (.int .i8 s1) := (cell_of_row w5 _ 1 _ _ (0, 0) r1).trans rfl; have r4 : w5.cell? ⟨wr.heap.size, 2, none⟩ = some (.int .i8 s2) := (cell_of_row w5 _ 2 _ _ (0, 0) r1).trans rfl; clear hb5 r1) | (go_at_call 9; refine (C2 _ HB5.out).mono ?_; rintro e w6 ⟨⟨X6, Y6, ko6, kq6, hk6⟩, rfl, hb6⟩; have HK6 : Hid _ := hk6; have HB6 : Hid (Below w.heap.size w w6) := (lb_trans HB.out HB5.out).trans hb6; clear hk6 hb6))
          go_roundw
          case rel => exact ⟨i + 1, O ++ [(s0, s1, s2)], insN Q s0, X6, Y6, ko6, kq6, by go_num, by omega, by rw [List.length_append]; show O.length + 1 ≤ i + 1; omega, HG2, HS2, HP.out.add (s0, s1, s2), HK6, HB6⟩
          case measure => simp [intOf]; omega
      · obtain rfl : i = l.length := by omega
        have hlt' : ¬ (l.length : Int) < (l.length : Int) := by omega
        have HV : Hid (apG n [] l = O) := by
          have h1 := HG.out
          rw [List.drop_length] at h1
          exact h1.symm
        have c0 := HK.out.c0
        have HF : Hid (SpsP (apG n [] l) w (.returned (.slice X O.length ko)) wr) := by
          unfold Hid
          rw [HV.out]
          exact ⟨X, ko, rfl, HK.out.spots, HB.out⟩
        clear HG HV HB HK
        go_wp2
        go_ret
        exact HF.out

end Go.Proofs.Ytkdafkdogmemcaa

namespace Go.Proofs.Ytkdafkdogmemcaa
open Go.RowKit

open Go.Sort
/-- The sort's end. -/
theorem sort20 {w w1 : World} {g n c nn : Nat} {os : Array Obj} {L : List Int} (HR : w1.ownsRow w.heap.size 3 1 (.slice (some ⟨g, 0, none⟩) n c) n (iVals .i64 L)) (HB : Below w.heap.size w w1) (hl : L.length = n) :
    (grow (putRow (Value.int .i64) (Sort.ahead w1 nn) g 0 (L.mergeSort fun x y => decide (x ≤ y)).toArray) os).ownsRow w.heap.size 3 1 (.slice (some ⟨g, 0, none⟩) n c) n (iVals .i64 (srtL L)) ∧ Below w.heap.size w (grow (putRow (Value.int .i64) (Sort.ahead w1 nn) g 0 (L.mergeSort fun x y => decide (x ≤ y)).toArray) os) := by
  have hl2 : (L.mergeSort fun x y => decide (x ≤ y)).length = L.length := List.length_mergeSort L
  subst hl
  rcases HR.2 with ⟨e0, h0⟩ | ⟨g', cap, cur, e0, hb, h1, h2, h3, h4, h5⟩
  · cases e0
  · cases e0
    exact ⟨ownsRow_sortedI (n := nn) (os := os) (ts := L.mergeSort fun x y => decide (x ≤ y)) hl2 hb h1 h2 h3 h4, HB.grown (grownBy_sortedI _) HB.size (fun j hj => by cases hj; exact hb)⟩
theorem psort_any (L : List Int) (O : Option Addr) (c : Nat) (w w1 : World) (HR : w1.ownsRow w.heap.size 3 1 (.slice O L.length c) L.length (iVals .i64 L)) (HB : Below w.heap.size w w1) (hl : L.length ≤ 1048576) :
    Calls Try.prog 11 #[.slice O L.length c] w1 fun e w2 => e = .returned (.tuple #[]) ∧ w2.ownsRow w.heap.size 3 1 (.slice O L.length c) L.length (iVals .i64 (srtL L)) ∧ Below w.heap.size w w2 := by
  cases L with
  | nil =>
    refine (Any.slices_Sort_int_none Try.layS O c w1).mono ?_
    rintro e w2 ⟨rfl, rfl⟩
    exact ⟨rfl, by rw [show srtL [] = [] from List.mergeSort_nil]; exact HR, HB⟩
  | cons y M =>
    obtain ⟨g, cap, ev, hbg, hgl, hnc, hcm, hzl, hH⟩ := Lib.holds_of_ownsRow (enc := Value.int .i64) (zs := y :: M) HR (fun e => by injection e with _ e2 _; simp at e2)
    injection ev with e1 _ e3
    subst e1
    subst e3
    refine (Any.slices_Sort_int Try.layS g 0 c (y :: M) w1 hH hgl (by omega)).mono ?_
    rintro e w2 ⟨rfl, nn, os, rfl⟩
    exact ⟨rfl, sort20 HR HB rfl⟩
set_option maxRecDepth 100000 in
set_option maxHeartbeats 8000000 in
theorem poverlaps_any (n : Int) (A : Option Addr) (c : Nat) (l : List Spt) (w : World) (hA : SpAt w A l) (hl : l.length ≤ 65536) :
    Calls Try.prog 6 #[.int .i64 n, .slice A l.length c] w fun e w' => e = .returned (.int .i64 ((ovR n l : Nat) : Int)) ∧ Below w.heap.size w w' := by
  have CW := maybe_any n A c l w hA (by omega)
  cases hwi : wiB n l with
  | false =>
    have HR : Hid (ovR n l = 0) := by unfold Hid ovR; rw [hwi, if_neg (by simp)]
    rw [hwi] at CW
    rw [HR.out]
    clear hA HR hwi
    go_enter Try.func6, Try.ntmps6
    go_wp2_with fail
    refine CW.mono ?_
    rintro e w1 ⟨rfl, hb⟩
    have HB : Hid (Below w.heap.size w w1) := hb
    clear hb
    go_wp2
    go_ret
    exact ⟨rfl, HB.out⟩
  | true =>
    obtain ⟨hm, hn1, hn2⟩ := wi_mem hwi
    have HR : Hid (ovR n l = pcP n (srtL (plL l)) l.length) := by unfold Hid ovR; rw [hwi, if_pos rfl, ovP_srt]
    have HSr : Hid (Srt (srtL (plL l))) := srtL_srt _
    have HSl : Hid ((srtL (plL l)).length = l.length) := by unfold Hid; rw [(srtL_perm _).length_eq, plL_len]
    have HSb : Hid (∀ j, j < l.length → 0 ≤ (srtL (plL l)).getD j 0 ∧ (srtL (plL l)).getD j 0 ≤ 16384) := fun j hj => by
      have h1 : (srtL (plL l)).getD j 0 ∈ srtL (plL l) := getD_mem (by rw [HSl.out]; exact hj)
      have h2 := (srtL_perm (plL l)).mem_iff.1 h1
      obtain ⟨s, hs, e⟩ := List.mem_map.1 h2
      rw [← e]
      exact hm s hs
    have HPb : Hid (∀ k, k ≤ l.length → pcP n (srtL (plL l)) k ≤ 4294967296) := fun k hk => by
      have h1 := pcP_le n (srtL (plL l)) (i := k) (b := 65536) (by omega)
      have h2 : k * 65536 ≤ 65536 * 65536 := Nat.mul_le_mul_right _ (by omega)
      omega
    have HSt : Hid (∀ k f, k < l.length → f ≤ k → (∀ j, j < f → ¬ (srtL (plL l)).getD k 0 - (srtL (plL l)).getD j 0 < n) → (srtL (plL l)).getD k 0 - (srtL (plL l)).getD f 0 < n → pcP n (srtL (plL l)) (k + 1) = pcP n (srtL (plL l)) k + (k - f)) := fun k f h1 h2 h3 h4 => pcP_step HSr.out (by rw [HSl.out]; exact h1) h2 h3 h4
    have CP := fun (Z : World) (hZ : Below w.heap.size w Z) => places_any A c l Z (hA.keep hZ) (by omega)
    have CS : Hid (∀ (O : Option Addr) (Z Z1 : World), Z1.ownsRow Z.heap.size 3 1 (.slice O l.length l.length) l.length (iVals .i64 (plL l)) → Below Z.heap.size Z Z1 → Calls Try.prog 11 #[.slice O l.length l.length] Z1 fun e w2 => e = .returned (.tuple #[]) ∧ w2.ownsRow Z.heap.size 3 1 (.slice O l.length l.length) l.length (iVals .i64 (srtL (plL l))) ∧ Below Z.heap.size Z w2) := fun O Z Z1 h1 h2 => by
      have := psort_any (plL l) O l.length Z Z1 (by rw [plL_len]; exact h1) h2 (by rw [plL_len]; omega)
      rw [plL_len] at this
      exact this
    rw [hwi] at CW
    rw [HR.out]
    clear hA HR hwi hm
    generalize srtL (plL l) = S at *
    go_enter Try.func6, Try.ntmps6
    go_upto_region 3 with (go_at_call 7; refine CW.mono ?_; rintro e w1 ⟨rfl, hb⟩; have HB1 : Hid (Below w.heap.size w w1) := hb; clear hb)
    clear CW
    go_upto_region 4 with (go_at_call 10; refine (CP _ HB1.out).mono ?_; rintro e w2 ⟨O, rfl, hr2, hb2⟩; have HR2 : Hid (w2.ownsRow w1.heap.size 3 1 (.slice O l.length l.length) l.length (iVals .i64 (plL l))) := hr2; have HB2 : Hid (Below w1.heap.size w1 w2) := hb2; clear hr2 hb2)
    have C5 := CS.out O _ _ HR2.out HB2.out
    clear CP CS HR2 HB2
    go_upto_region 5 with (go_at_call 11; refine C5.mono ?_; rintro e w5 ⟨rfl, hr5, hb5⟩; have HR5 : Hid (w5.ownsRow w1.heap.size 3 1 (.slice O l.length l.length) l.length (iVals .i64 S)) := hr5; have HB5 : Hid (Below w1.heap.size w1 w5) := hb5; clear hr5 hb5)
    clear C5
    have HBw : Hid (Below w.heap.size w w5) := lb_trans HB1.out HB5.out
    have HNt : Hid (∀ (Z : World), Below w5.heap.size w5 Z → ∀ j, j < l.length → ∃ g, O = some ⟨g, 0, none⟩ ∧ Z.cell? ⟨g, j, none⟩ = some (.int .i64 (S.getD j 0))) := fun Z hZ j hj => by
      rcases HR5.out.2 with ⟨e0, h0⟩ | ⟨g, cap, cur, e0, hb, hg, hn, hm, hsz, htake⟩
      · omega
      · rw [Value.slice.injEq] at e0
        obtain ⟨rfl, -, rfl⟩ := e0
        refine ⟨g, rfl, lkeep hZ ?_⟩
        have := HR5.out.cells rfl j (.int .i64 (S.getD j 0)) (by simp [iVals, HSl.out, hj])
        rw [Addr.add_lit, Nat.zero_add] at this
        exact this
    clear HR5 HB5 HB1
    go_wp2
    go_loopw [6, 7, 19] (fun vp vf vk wr => ∃ (k f : Nat), vk = .int .i64 (k : Int) ∧ vf = .int .i64 (f : Int) ∧ vp = .int .i64 ((pcP n S k : Nat) : Int) ∧ k ≤ l.length ∧ f ≤ k ∧ Hid (∀ j, j < f → ∀ i, k ≤ i → i < l.length → n ≤ S.getD i 0 - S.getD j 0) ∧ Hid (Below w5.heap.size w5 wr)) (fun _ _ vk _ => l.length - (intOf vk).toNat)
    case atStart => exact ⟨0, 0, rfl, rfl, rfl, Nat.zero_le _, Nat.le_refl _, (fun j hj => absurd hj (Nat.not_lt_zero _)), Below.refl _ _⟩
    case round =>
      obtain ⟨k, f, rfl, rfl, rfl, hk, hf, HF, HB⟩ := hrel
      by_cases hlt : k < l.length
      · have hlt' : (k : Int) < (l.length : Int) := by omega
        have hk0 : (0 : Int) ≤ (k : Int) := by omega
        have hpb := HPb.out k hk
        generalize hpc : pcP n S k = pc at *
        go_wp2
        go_loopw [7] (fun vf ws => ∃ f : Nat, vf = .int .i64 (f : Int) ∧ f ≤ k ∧ Hid (∀ j, j < f → ∀ i, k ≤ i → i < l.length → n ≤ S.getD i 0 - S.getD j 0) ∧ Hid (Below w5.heap.size w5 ws)) (fun vf _ => k + 1 - (intOf vf).toNat)
        case atStart => exact ⟨f, rfl, hf, HF, HB⟩
        case round =>
          clear HF HB hf
          obtain ⟨f, rfl, hf, HF, HB⟩ := hrel
          obtain ⟨ws, hws⟩ : ∃ ws, ws = wr := ⟨_, rfl⟩
          subst hws
          obtain ⟨g, eg, q1⟩ := HNt.out _ HB.out f (by omega)
          subst eg
          obtain ⟨g', eg', q2⟩ := HNt.out _ HB.out k hlt
          cases eg'
          have hf0 : (0 : Int) ≤ (f : Int) := by omega
          have hfl : (f : Int) < (l.length : Int) := by omega
          have b1 := HSb.out f (by omega)
          have b2 := HSb.out k hlt
          have hle : S.getD f 0 ≤ S.getD k 0 := srt_at HSr.out hf (by rw [HSl.out]; exact hlt)
          have C := fun (Z : World) => povl_any n (S.getD f 0) (S.getD k 0) Z b1 b2
          have hD : ovD n (S.getD f 0) (S.getD k 0) = decide (S.getD k 0 - S.getD f 0 < n) := by
            unfold ovD
            rw [show max (S.getD f 0) (S.getD k 0) - min (S.getD f 0) (S.getD k 0) = S.getD k 0 - S.getD f 0 by omega]
          by_cases hc : S.getD k 0 - S.getD f 0 < n
          · rw [hD, decide_eq_true hc] at C
            have HPC : Hid (pcP n S (k + 1) = pc + (k - f)) := by
              unfold Hid
              rw [← hpc]
              exact HSt.out k f hlt hf (fun j hj => by have := HF.out j hj k (Nat.le_refl _) hlt; omega) hc
            have HF3 : Hid (∀ j, j < f → ∀ i, k + 1 ≤ i → i < l.length → n ≤ S.getD i 0 - S.getD j 0) := fun j hj i hi hil => HF.out j hj i (by omega) hil
            have hkf : (0 : Int) ≤ (k : Int) - (f : Int) ∧ (k : Int) - (f : Int) ≤ 65536 := by omega
            clear hD hc hle b1 b2 HF HSt hpc
            obtain ⟨x1, hx1⟩ : ∃ x, Hid (S.getD f 0 = x) := ⟨_, rfl⟩
            obtain ⟨x2, hx2⟩ : ∃ x, Hid (S.getD k 0 = x) := ⟨_, rfl⟩
            rw [hx1.out] at q1 C
            rw [hx2.out] at q2 C
            go_upto_region 9 with fail
            go_region_held3 (fun Z => Below ws.heap.size ws Z ∧ Z.cell? ⟨g, f, none⟩ = some (.int .i64 x1) ∧ Z.cell? ⟨g, k, none⟩ = some (.int .i64 x2)) (first | exact ⟨(Below.refl _ _).drew, q1, q2⟩ | assumption) (first | (go_at_call 12; refine (C _).mono ?_; rintro e w6 ⟨rfl, rfl⟩))
            all_goals (
              rename_i hS
              have HBS : Hid (Below ws.heap.size ws _) := hS.1
              clear hS
              go_wp2
              exact ⟨⟨k + 1, f, by go_num, rfl, by rw [HPC.out]; congr 1; omega, by omega, by omega, HF3, lb_trans HB.out HBS.out⟩, by simp [intOf]; omega⟩)
          · rw [hD, decide_eq_false hc] at C
            have HC : Hid (n ≤ S.getD k 0 - S.getD f 0) := by unfold Hid; omega
            have hfk : f < k := by
              by_cases c : f = k
              · subst c; omega
              · omega
            have HF2 : Hid (∀ j, j < f + 1 → ∀ i, k ≤ i → i < l.length → n ≤ S.getD i 0 - S.getD j 0) := fun j hj i hi hil => by
              by_cases c : j = f
              · subst c
                have h1 := srt_at HSr.out hi (by rw [HSl.out]; exact hil)
                have h2 := HC.out
                omega
              · exact HF.out j (by omega) i hi hil
            clear hD hc hle b1 b2 HF
            obtain ⟨x1, hx1⟩ : ∃ x, Hid (S.getD f 0 = x) := ⟨_, rfl⟩
            obtain ⟨x2, hx2⟩ : ∃ x, Hid (S.getD k 0 = x) := ⟨_, rfl⟩
            rw [hx1.out] at q1 C
            rw [hx2.out] at q2 C
            go_upto_region 9 with fail
            go_region_held3 (fun Z => Below ws.heap.size ws Z ∧ Z.cell? ⟨g, f, none⟩ = some (.int .i64 x1) ∧ Z.cell? ⟨g, k, none⟩ = some (.int .i64 x2)) (first | exact ⟨(Below.refl _ _).drew, q1, q2⟩ | assumption) (first | (go_at_call 12; refine (C _).mono ?_; rintro e w6 ⟨rfl, rfl⟩))
            all_goals (
              rename_i hS
              have HBS : Hid (Below ws.heap.size ws _) := hS.1
              clear hS
              go_wp2
              go_roundw
              case rel => exact ⟨f + 1, by go_num, by omega, HF2, lb_trans HB.out HBS.out⟩
              case measure => simp [intOf]; omega)
      · obtain rfl : k = l.length := by omega
        have hlt' : ¬ (l.length : Int) < (l.length : Int) := by omega
        have HE : Hid (Below w.heap.size w wr) := lb_trans HBw.out HB.out
        clear HB HF
        go_wp2
        go_ret
        exact ⟨rfl, HE.out⟩

end Go.Proofs.Ytkdafkdogmemcaa
