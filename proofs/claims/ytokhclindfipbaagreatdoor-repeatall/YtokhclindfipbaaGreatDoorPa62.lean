/-
  RepeatAll.
-/
import Derived.Test.YtokhclindfipbaaGreatDoorProg
import Derived.WalkKit
import Derived.WalkSpells
import Derived.WalkLawsBesides
import Derived.RowKit3
import Derived.Below
import Derived.Deep.QuietTactic
import Derived.BigQuiet
import Derived.WalkSmall
import Derived.Laws.Rows
import Derived.Test.YtokhclindfipbaaGreatDoorPa51
import Derived.Test.YtokhclindfipbaaGreatDoorPa59
import Derived.Test.YtokhclindfipbaaGreatDoorPa60
import Derived.Test.YtokhclindfipbaaGreatDoorPa61
import Derived.Test.YtokhclindfipbaaGreatDoorPa15
import Derived.RangeFuncNested
import Derived.RangeFuncBound
import Derived.RangeFuncCalls
import Derived.RangeFuncLeaves
import Derived.Shelf.Abstract
import Derived.Shelf.RegionOpen
import Derived.OwnWalkIn
import Derived.TacticsInMore
import Derived.LoopNIn
import Derived.LoopIn
import Derived.Maps.AppendAt
import Derived.RangeFuncBox
import Derived.Deep.RegionHeld3
import Derived.Deep.Cut
namespace Go.Proofs.YtokhclindfipbaaGreatDoor
open Go.RowKit

attribute [local go_sem] Oper.semAt_some

theorem bag_new (w : World) : BagIs (w.alloc (.cells #[.slice none 0 0, .slice none 0 0, .slice none 0 0, .slice none 0 0, .slice none 0 0, .slice none 0 0, .slice none 0 0, .slice none 0 0, .slice none 0 0, .slice none 0 0, .slice none 0 0, .slice none 0 0, .slice none 0 0, .slice none 0 0, .slice none 0 0, .slice none 0 0, .slice none 0 0] 65)) w.heap.size (fun _ => .slice none 0 0) := by
  refine ⟨_, heap_alloc_new _ _, fun k hk => ?_⟩
  have hq : k = 0 ∨ k = 1 ∨ k = 2 ∨ k = 3 ∨ k = 4 ∨ k = 5 ∨ k = 6 ∨ k = 7 ∨ k = 8 ∨ k = 9 ∨ k = 10 ∨ k = 11 ∨ k = 12 ∨ k = 13 ∨ k = 14 ∨ k = 15 ∨ k = 16 := by omega
  rcases hq with rfl | rfl | rfl | rfl | rfl | rfl | rfl | rfl | rfl | rfl | rfl | rfl | rfl | rfl | rfl | rfl | rfl <;> rfl
theorem bag_none (w : World) : BgS (w.alloc (.cells #[.slice none 0 0, .slice none 0 0, .slice none 0 0, .slice none 0 0, .slice none 0 0, .slice none 0 0, .slice none 0 0, .slice none 0 0, .slice none 0 0, .slice none 0 0, .slice none 0 0, .slice none 0 0, .slice none 0 0, .slice none 0 0, .slice none 0 0, .slice none 0 0, .slice none 0 0] 65)) w.heap.size [] [] (fun _ => .slice none 0 0) :=
  ⟨bag_new w, fun _ _ _ _ => rfl, World.ownsRow_nil _ _ _ _, World.ownsRow_nil _ _ _ _⟩
theorem each_not (B : Nat) (w : World) : (binOp BinOp.neq 43 (.func (.func 37) #[.pointer (some ⟨B, 0, none⟩)] #[]) .nilFunc).run Tryz.prog w = .ok (.bool true) w := by kernel_rfl
theorem nil_is (w : World) : (binOp BinOp.eql 43 .nilFunc .nilFunc).run Tryz.prog w = .ok (.bool true) w := by kernel_rfl
theorem nil_not (w : World) : (binOp BinOp.neq 43 .nilFunc .nilFunc).run Tryz.prog w = .ok (.bool false) w := by kernel_rfl
/-- How the count has come on, and all that was there ahead is as it was. -/
structure AllI (Bc : Nat) (We : World) (T : List (Nat × Nat)) (W : World) : Prop where
  cnt : Boxed W Bc 3 (.int .i64 (T.length : Int))
  but : ButS (fun b => b = Bc) We W
theorem AllI.turn {Bc n : Nat} {We W W' : World} {T : List (Nat × Nat)} (h : AllI Bc We T W) (t : Turn n W W') (hn : We.heap.size ≤ n) : AllI Bc We T W' :=
  ⟨t.box h.cnt, t.os.trans h.but.1, t.tape.trans h.but.2.1, t.output.trans h.but.2.2.1, Nat.le_trans h.but.2.2.2.1 t.size, fun k hk hk2 => (t.low k (by omega)).trans (h.but.2.2.2.2 k hk hk2)⟩
theorem AllI.set {Bc : Nat} {We W : World} {T : List (Nat × Nat)} (h : AllI Bc We T W) (r : Nat × Nat) : AllI Bc We (T ++ [r]) (W.setCell ⟨Bc, 0, none⟩ (.int .i64 ((T.length : Int) + 1))) :=
  ⟨by rw [List.length_append]; exact h.cnt.set _, h.but.set rfl 0 _⟩

theorem AllI.below {Bc : Nat} {We W W' : World} {T : List (Nat × Nat)} (h : AllI Bc We T W) (hb : Below W.heap.size W W') : AllI Bc We T W' :=
  ⟨(hb.block _ h.cnt.lt).trans h.cnt, h.but.trans (ButS.of hb)⟩
theorem BgS.keep {w w' : World} {B : Nat} {l r : List Value} {g : Nat → Value} (h : BgS w B l r g) (hb : Below w.heap.size w w') : BgS w' B l r g :=
  ⟨h.is.keep (hb.block _ h.is.lt), h.nil, row_keep h.r1 hb, row_keep h.r14 hb⟩
theorem pre_at {T L : List (Nat × Nat)} {r : Nat × Nat} (h : T ++ [r] <+: L) : L[T.length]? = some r := by
  obtain ⟨t, rfl⟩ := h
  simp
theorem fst_at {QT : List Tp} {nm : List Int} {en : Nat → Nat} {L T : List (Nat × Nat)} {r : Nat × Nat} (h : fsts QT = tdL nm en L) (hp : T ++ [r] <+: L) : T.length < QT.length ∧ (pth QT T.length).1 = (r.1, plcS nm en r.2 r.1) := by
  have h1 := pre_at hp
  have hl : QT.length = L.length := by
    have := congrArg List.length h
    unfold fsts tdL at this
    rwa [List.length_map, List.length_map] at this
  have hlt : T.length < L.length := (List.getElem?_eq_some_iff.1 h1).1
  have h2 := congrArg (fun l => l[T.length]?) h
  unfold fsts tdL at h2
  simp only [List.getElem?_map, h1, Option.map_some] at h2
  rw [List.getElem?_eq_getElem (by omega)] at h2
  simp only [Option.map_some, Option.some.injEq] at h2
  refine ⟨by omega, ?_⟩
  unfold pth
  rw [List.getD_eq_getElem?_getD, List.getElem?_eq_getElem (by omega)]
  exact h2

theorem tol_less {text : List Int} {ml : Nat} {ent : Int} (hs : (checkI text ml ent).1 = 0 → text.length ≤ 512) : (tolT text ml ent).length ≤ 300000 := by
  by_cases hE : (checkI text ml ent).1 = 0
  · have he : EnP (numL text text.length) (enK (begF text ent) text.length) := by
      have := enK_ok (f := begF text ent) (nm := numL text text.length)
      rw [numL_len] at this
      exact this
    rw [tolT_yes hE, tdL_len, repL_uniq he (each_is he)]
    unfold repL
    rw [List.length_mergeSort]
    exact repC_few (by rw [numL_len]; exact hs hE)
  · rw [tolT_no hE]
    exact Nat.zero_le _
set_option maxRecDepth 100000 in
set_option maxHeartbeats 16000000 in
theorem lawAll (A1 A2 : Option Addr) (c1 c2 : Nat) (ent : Int) (text mem : List Int) (at' ln most : Int) (w : World) (hT : IntsAt w A1 .u32 text) (hM : IntsAt w A2 .i64 mem) (hR : ∀ i, i < text.length → 0 ≤ nth text i ∧ nth text i < 4294967296) (ha : -9223372036854775808 ≤ at' ∧ at' ≤ 9223372036854775807) :
    Calls Tryz.prog 3 #[.agg #[.slice A1 text.length c1, .int .i64 ent, .slice A2 mem.length c2], .int .i64 at', .int .i64 ln, .int .i64 most] w fun e w' => e = .returned (.bool true) ∧ Below w.heap.size w w' := by
  obtain ⟨W0, hW⟩ : ∃ W0, ((w.alloc (.cells #[.slice A1 text.length c1, .int .i64 ent, .slice A2 mem.length c2] 25)).alloc (.cells #[.int .i64 most] 3)).alloc (.cells #[.bool false] 4) = W0 := ⟨_, rfl⟩
  have HB0 : Hid (Below w.heap.size w W0) := by unfold Hid; rw [← hW]; exact lb_alloc (lb_alloc (lb_alloc (Below.refl _ _) _) _) _
  have hs0 : W0.heap.size = w.heap.size + 1 + 1 + 1 := by rw [← hW]; simp
  have i0 : W0.cell? ⟨w.heap.size, 0, none⟩ = some (.slice A1 text.length c1) := by rw [← hW]; simp [go_sem]
  have i1 : W0.cell? ⟨w.heap.size, 1, none⟩ = some (.int .i64 ent) := by rw [← hW]; simp [go_sem]
  have i2 : W0.cell? ⟨w.heap.size, 2, none⟩ = some (.slice A2 mem.length c2) := by rw [← hW]; simp [go_sem]
  have i3 : W0.cell? ⟨w.heap.size + 1, 0, none⟩ = some (.int .i64 most) := by rw [← hW]; simp [go_sem]
  have i8 : Boxed W0 (w.heap.size + 1 + 1) 4 (.bool false) := by rw [← hW]; exact box_newR (by simp)
  have HX : Hid (∀ Z, Below W0.heap.size W0 Z → Z.cell? ⟨w.heap.size, 0, none⟩ = some (.slice A1 text.length c1) ∧ Z.cell? ⟨w.heap.size, 1, none⟩ = some (.int .i64 ent) ∧ Z.cell? ⟨w.heap.size, 2, none⟩ = some (.slice A2 mem.length c2)) := fun Z hZ => ⟨lkeep hZ i0, lkeep hZ i1, lkeep hZ i2⟩
  have HMo : Hid (∀ Z, Below W0.heap.size W0 Z → Z.cell? ⟨w.heap.size + 1, 0, none⟩ = some (.int .i64 most)) := fun Z hZ => lkeep hZ i3
  have HR8 : Hid (∀ Z, Below W0.heap.size W0 Z → Boxed Z (w.heap.size + 1 + 1) 4 (.bool false)) := fun Z hZ => (hZ.block _ (by omega)).trans i8
  have HT : Hid (IntsAt W0 A1 .u32 text) := hT.keep HB0.out
  have HM : Hid (IntsAt W0 A2 .i64 mem) := hM.keep HB0.out
  have HR : Hid (∀ i, i < text.length → 0 ≤ nth text i ∧ nth text i < 4294967296) := hR
  have HS0 : Hid (W0.heap.size = w.heap.size + 1 + 1 + 1) := hs0
  have HW : Hid _ := hW
  clear hT hM hR hs0 i3 i8 hW
  refine (callsIn_wide (n := 5)).1 ?_
  refine callsIn_of_wp_marks Tryz.func3 rfl trivial ?_ rfl
  simp only [Tryz.ntmps3, List.size_toArray, List.length_cons, List.length_nil, Nat.reduceAdd, Nat.reduceSub, Array.replicate_succ, Array.replicate_zero, List.push_toArray, List.append_toArray, List.nil_append, List.cons_append]
  gi_upto_region 1 with fail
  rw [HW.out]
  clear HW
  gi_wp2_with fail
  refine ⟨trivial, (callsIn_wide.2 (heavy18_any A1 A2 c1 c2 text.length mem.length ent W0)).mono ?_⟩
  rintro e w1 ⟨B, rfl, hB, hb1⟩
  have HB1 : Hid (Below W0.heap.size W0 w1) := hb1
  clear hb1 i0 i1 i2
  cases B with
  | true =>
    clear hB
    gi_wp2_with fail
    refine ⟨trivial, (callsIn_wide.2 (lives_any w1)).mono ?_⟩
    rintro e w2 ⟨rfl, hb2⟩
    have HB2 : Hid (Below W0.heap.size W0 w2) := lb_trans HB1.out hb2
    have r8 := HR8.out w2 HB2.out
    have rc := r8.cell
    have rf := r8.frozen
    have z := (r8.set (.bool true)).cell
    clear hb2 r8
    gi_wp2
    refine ⟨.bool true, by simp [results, Tryz.results3, go_sem, z], rfl, ?_⟩
    exact (lb_trans HB0.out HB2.out).setCell (by show w.heap.size ≤ w.heap.size + 1 + 1; omega) _
  | false =>
    obtain ⟨hn, hn3, hm8⟩ := hB rfl
    clear hB
    have hl : text.length ≤ 1048576 := by omega
    have hm : mem.length ≤ 1048576 := by omega
    have hs : (checkI text mem.length ent).1 = 0 → text.length ≤ 512 := fun h => by have := (check_mayI h).past.len; omega
    obtain ⟨i0, i1, i2⟩ := HX.out w1 HB1.out
    gi_wp2_with fail
    refine ⟨trivial, (callsIn_wide.2 (wideimg_lies A1 A2 c1 c2 text mem ent w1 (HT.out.keep HB1.out) (HM.out.keep HB1.out) hl hm)).mono ?_⟩
    rintro e w2 ⟨g1, g2, rfl, hb2, ht2, hm2, hx2, hy2⟩
    obtain ⟨W4, HW4⟩ : ∃ W4, Hid (w2.alloc (.cells #[.slice (some ⟨g1, 0, none⟩) text.length (text.length + 64), .int .i64 ent, .slice (some ⟨g2, 0, none⟩) mem.length (mem.length + 64)] 25) = W4) := ⟨_, rfl⟩
    have hb4 : Below w2.heap.size w2 W4 := by rw [← HW4.out]; exact lb_alloc (Below.refl _ _) _
    have HB4 : Hid (Below W0.heap.size W0 W4) := lb_trans (lb_trans HB1.out hb2) hb4
    have HT4 : Hid (IntsAt W4 (some ⟨g1, 0, none⟩) .u32 text) := ht2.keep hb4
    have HK1 : Hid (MarkI W4 .u32 g1 text.length) := hm2.keep hb4
    have HM4 : Hid (IntsAt W4 (some ⟨g2, 0, none⟩) .i64 mem) := hx2.keep hb4
    have HK2 : Hid (MarkI W4 .i64 g2 mem.length) := hy2.keep hb4
    have y0 : W4.cell? ⟨w2.heap.size, 0, none⟩ = some (.slice (some ⟨g1, 0, none⟩) text.length (text.length + 64)) := by rw [← HW4.out]; simp [go_sem]
    have y1 : W4.cell? ⟨w2.heap.size, 1, none⟩ = some (.int .i64 ent) := by rw [← HW4.out]; simp [go_sem]
    have y2 : W4.cell? ⟨w2.heap.size, 2, none⟩ = some (.slice (some ⟨g2, 0, none⟩) mem.length (mem.length + 64)) := by rw [← HW4.out]; simp [go_sem]
    have HY : Hid (∀ Z, Below W4.heap.size W4 Z → Z.cell? ⟨w2.heap.size, 0, none⟩ = some (.slice (some ⟨g1, 0, none⟩) text.length (text.length + 64)) ∧ Z.cell? ⟨w2.heap.size, 1, none⟩ = some (.int .i64 ent) ∧ Z.cell? ⟨w2.heap.size, 2, none⟩ = some (.slice (some ⟨g2, 0, none⟩) mem.length (mem.length + 64))) := fun Z hZ => ⟨lkeep hZ y0, lkeep hZ y1, lkeep hZ y2⟩
    clear hb2 ht2 hm2 hx2 hy2 hb4 i0 i1 i2
    obtain ⟨i0, i1, i2⟩ := HX.out W4 HB4.out
    gi_upto_region 4 with fail
    rw [HW4.out]
    clear HW4
    -- gone
    have CG := gone_u (some ⟨g1, 0, none⟩) (some ⟨g2, 0, none⟩) (text.length + 64) mem.length (mem.length + 64) ent text W4 HT4.out HR.out hl hm hs
    have CA := fun Z (hZ : Below W4.heap.size W4 Z) => refall18_any A1 A2 c1 mem.length c2 ent text Z (HT.out.keep (lb_trans HB4.out hZ)) HR.out hl hm hs
    have CC := fun Z (hZ : Below W4.heap.size W4 Z) => count_u (some ⟨g1, 0, none⟩) (some ⟨g2, 0, none⟩) (text.length + 64) mem.length (mem.length + 64) ent text Z (HT4.out.keep hZ) HR.out hl hm hs
    have CD := fun Z (hZ : Below W4.heap.size W4 Z) => refcount18_any A1 A2 c1 mem.length c2 ent text Z (HT.out.keep (lb_trans HB4.out hZ)) HR.out hl hm hs
    have CP := fun Z (hZ : Below W4.heap.size W4 Z) => places_u (some ⟨g1, 0, none⟩) (some ⟨g2, 0, none⟩) (text.length + 64) mem.length (mem.length + 64) ent text Z (HT4.out.keep hZ) HR.out hl hm hs at' ln ha
    have CQ := fun Z (hZ : Below W4.heap.size W4 Z) => refplaces18_any A1 A2 c1 mem.length c2 ent text Z (HT.out.keep (lb_trans HB4.out hZ)) HR.out hl hm hs at' ln ha
    have hLf := (tol_few hs).2
    have hLg := tol_less hs
    have HPl : Hid ((plL text mem.length ent at' ln).length ≤ 1048576) := by
      unfold Hid plL
      by_cases c : (checkI text mem.length ent).1 = 0 ∧ okB text ent at' ln = true
      · rw [if_pos c]
        have := plcS_few (numL text text.length) (enK (begF text ent) text.length) at'.toNat ln.toNat
        rw [numL_len] at this
        omega
      · rw [if_neg c]; exact Nat.zero_le _
    obtain ⟨E, hE⟩ : ∃ E, Hid ((checkI text mem.length ent).1 = E) := ⟨_, rfl⟩
    obtain ⟨T, hT⟩ : ∃ T, Hid (tolT text mem.length ent = T) := ⟨_, rfl⟩
    obtain ⟨L, hL⟩ : ∃ L, Hid (plL text mem.length ent at' ln = L) := ⟨_, rfl⟩
    obtain ⟨F, hF⟩ : ∃ F, Hid (plE text mem.length ent at' ln = F) := ⟨_, rfl⟩
    rw [hE.out, hT.out] at CG CA CC CD
    rw [hL.out, hF.out] at CP CQ
    rw [hT.out] at hLf hLg
    rw [hL.out] at HPl
    gi_wp2_with fail
    refine ⟨trivial, (callsIn_wide.2 CG).mono ?_⟩
    rintro e w5 ⟨PT, Og, cg, rfl, hf, hog, hta, hsp, hb5⟩
    have HF : Hid (fsts PT = T) := hf
    have HO5 : Hid (w5.ownsRow W4.heap.size 69 2 (.slice Og PT.length cg) PT.length (dTp PT)) := hog
    have HA5 : Hid (TpAt w5 W4.heap.size PT) := hta
    have HSp : Hid (SepT PT) := hsp
    have HP5 : Hid (TpsAt w5 Og PT) := tps_of hog hta
    have HB5 : Hid (Below W4.heap.size W4 w5) := hb5
    have hPl : PT.length ≤ 1048576 := by
      have h1 := congrArg List.length hf
      unfold fsts at h1
      rw [List.length_map] at h1
      omega
    have HPL : Hid (∀ p ∈ PT, p.1.2.length ≤ 1048576) := fun p hp => by
      have := hLf p.1 (by rw [← hf]; exact List.mem_map.2 ⟨p, hp, rfl⟩)
      omega
    clear hf hog hta hsp hb5 CG i0 i1 i2 y0 y1 y2 hLf hLg
    obtain ⟨i0, i1, i2⟩ := HX.out w5 (lb_trans HB4.out HB5.out)
    gi_wp2_with fail
    refine ⟨trivial, (callsIn_wide.2 (CA _ HB5.out)).mono ?_⟩
    rintro e w6 ⟨QT, Aq, cq, rfl, hq, htq, hb6⟩
    obtain ⟨W7, HW7⟩ : ∃ W7, Hid (w6.alloc (.cells #[.slice Aq QT.length cq] 29) = W7) := ⟨_, rfl⟩
    have hb7 : Below w6.heap.size w6 W7 := by rw [← HW7.out]; exact lb_alloc (Below.refl _ _) _
    have HB57 : Hid (Below w5.heap.size w5 W7) := lb_trans hb6 hb7
    have HB7 : Hid (Below W4.heap.size W4 W7) := lb_trans HB5.out HB57.out
    have HQ : Hid (fsts QT = T) := hq
    have HQ7 : Hid (TpsAt W7 Aq QT) := htq.keep hb7
    have HWb : Hid (Boxed W7 w6.heap.size 29 (.slice Aq QT.length cq)) := by unfold Hid; rw [← HW7.out]; exact Boxed.new _ _ _
    clear hq htq hb6 hb7 CA i0 i1 i2
    gi_upto_region 6 with fail
    rw [HW7.out]
    clear HW7
    obtain ⟨y0, y1, y2⟩ := HY.out W7 HB7.out
    gi_wp2_with fail
    refine ⟨trivial, (callsIn_wide.2 (CC _ HB7.out)).mono ?_⟩
    rintro e w8 ⟨rfl, hb8⟩
    have HB78 : Hid (Below W7.heap.size W7 w8) := hb8
    have HB8 : Hid (Below W4.heap.size W4 w8) := lb_trans HB7.out hb8
    clear hb8 CC y0 y1 y2
    obtain ⟨i0, i1, i2⟩ := HX.out w8 (lb_trans HB4.out HB8.out)
    gi_wp2_with fail
    refine ⟨trivial, (callsIn_wide.2 (CD _ HB8.out)).mono ?_⟩
    rintro e w9 ⟨rfl, hb9⟩
    have HB79 : Hid (Below W7.heap.size W7 w9) := lb_trans HB78.out hb9
    have HB9 : Hid (Below W4.heap.size W4 w9) := lb_trans HB8.out hb9
    clear hb9 CD i0 i1 i2 HB78 HB8
    obtain ⟨y0, y1, y2⟩ := HY.out w9 HB9.out
    gi_wp2_with fail
    refine ⟨trivial, (callsIn_wide.2 (CP _ HB9.out)).mono ?_⟩
    rintro e w10 ⟨Op, cp, rfl, hop, hb10⟩
    have HOp : Hid (w10.ownsRow w9.heap.size 3 1 (.slice Op L.length cp) L.length (iVals .i64 (nV64 L))) := hop
    have HB7a : Hid (Below W7.heap.size W7 w10) := lb_trans HB79.out hb10
    have HB10 : Hid (Below W4.heap.size W4 w10) := lb_trans HB9.out hb10
    have HPS : Hid (∀ p ∈ PT, ∀ g, (tpV p).ownBlock = some g → (tpV ((0, L), (Op, cp))).ownBlock ≠ some g) := fun p hp g hg hg2 => by
      have h1 := ((HA5.out p hp).lt g hg).2
      have h2 := (hop.lt g hg2).1
      have h3 := HB57.out.size
      have h4 := HB79.out.size
      omega
    clear hop hb10 CP y0 y1 y2
    obtain ⟨i0, i1, i2⟩ := HX.out w10 (lb_trans HB4.out HB10.out)
    gi_wp2_with fail
    refine ⟨trivial, (callsIn_wide.2 (CQ _ HB10.out)).mono ?_⟩
    rintro e w11 ⟨Oq, cq2, rfl, hoq, hb11⟩
    have HIq : Hid (IntsAt w11 Oq .i64 (nV64 L)) := row_ints (l := nV64 L) (by rw [nV64_len]; exact hoq)
    have HOp1 : Hid (w11.ownsRow w9.heap.size 3 1 (.slice Op L.length cp) L.length (iVals .i64 (nV64 L))) := row_keep HOp.out hb11
    have HB7b : Hid (Below W7.heap.size W7 w11) := lb_trans HB7a.out hb11
    have HB11 : Hid (Below W4.heap.size W4 w11) := lb_trans HB10.out hb11
    clear hoq hb11 CQ i0 i1 i2 HOp HB7a HB10
    obtain ⟨i0, i1, i2⟩ := HX.out w11 (lb_trans HB4.out HB11.out)
    obtain ⟨y0, y1, y2⟩ := HY.out w11 HB11.out
    have HIp : Hid (IntsAt w11 Op .i64 (nV64 L)) := row_ints (l := nV64 L) (by rw [nV64_len]; exact HOp1.out)
    have HWb1 : Hid (Boxed w11 w6.heap.size 29 (.slice Aq QT.length cq)) := (HB7b.out.block _ HWb.out.lt).trans HWb.out
    have wc := HWb1.out.cell
    have HP11 : Hid (TpsAt w11 Og PT) := HP5.out.keep (lb_trans HB57.out HB7b.out)
    have HQ11 : Hid (TpsAt w11 Aq QT) := HQ7.out.keep HB7b.out
    have C1 := eqrepeats_same Og Aq cg cq PT QT w11 HP11.out HQ11.out (by rw [HF.out, HQ.out]) hPl HPL.out
    have C2 := fun Z (hZ : Below w11.heap.size w11 Z) => eqints_any Op Oq cp cq2 (nV64 L) (nV64 L) Z (HIp.out.keep hZ) (HIq.out.keep hZ) (by rw [nV64_len]; exact HPl.out)
    simp only [nV64_len, decide_true] at C2
    have C3 := fun Z (hZ : Below w11.heap.size w11 Z) => eqimg_same (some ⟨g1, 0, none⟩) (some ⟨g2, 0, none⟩) A1 A2 (text.length + 64) (mem.length + 64) c1 c2 text mem ent Z (HT4.out.keep (lb_trans HB11.out hZ)) (HM4.out.keep (lb_trans HB11.out hZ)) (HT.out.keep (lb_trans HB4.out (lb_trans HB11.out hZ))) (HM.out.keep (lb_trans HB4.out (lb_trans HB11.out hZ))) hl hm
    have C4 := fun Z (hZ : Below w11.heap.size w11 Z) => spareimg_any ent g1 text.length g2 mem.length Z (HK1.out.keep (lb_trans HB11.out hZ)) (HK2.out.keep (lb_trans HB11.out hZ)) hl hm
    clear HIp HIq HP5 HQ7 HWb
    gi_wp2_with fail
    refine ⟨trivial, (callsIn_wide.2 C1).mono ?_⟩
    rintro e w12 ⟨rfl, hb12⟩
    have HB12 : Hid (Below w11.heap.size w11 w12) := hb12
    clear hb12 C1
    gi_wp2_with fail
    refine ⟨trivial, (callsIn_wide.2 (C2 _ HB12.out)).mono ?_⟩
    rintro e w13 ⟨rfl, hb13⟩
    have HB13 : Hid (Below w11.heap.size w11 w13) := lb_trans HB12.out hb13
    clear hb13 C2 i0 i1 i2 y0 y1 y2
    obtain ⟨i0, i1, i2⟩ := HX.out w13 (lb_trans HB4.out (lb_trans HB11.out HB13.out))
    obtain ⟨y0, y1, y2⟩ := HY.out w13 (lb_trans HB11.out HB13.out)
    gi_wp2_with fail
    refine ⟨trivial, (callsIn_wide.2 (C3 _ HB13.out)).mono ?_⟩
    rintro e w14 ⟨rfl, hb14⟩
    have HB14 : Hid (Below w11.heap.size w11 w14) := lb_trans HB13.out hb14
    clear hb14 C3 i0 i1 i2 y0 y1 y2
    obtain ⟨y0, y1, y2⟩ := HY.out w14 (lb_trans HB11.out HB14.out)
    gi_wp2_with fail
    refine ⟨trivial, (callsIn_wide.2 (C4 _ HB14.out)).mono ?_⟩
    rintro e w15 ⟨rfl, hb15⟩
    have HB15 : Hid (Below w11.heap.size w11 w15) := lb_trans HB14.out hb15
    clear hb15 C4 y0 y1 y2 wc HB12 HB13 HB14
    have HB415 : Hid (Below W4.heap.size W4 w15) := lb_trans HB11.out HB15.out
    obtain ⟨y0, y1, y2⟩ := HY.out w15 HB415.out
    by_cases hE0 : E = 0
    · subst hE0
      obtain ⟨nm, hnm⟩ : ∃ nm, Hid (numL text text.length = nm) := ⟨_, rfl⟩
      obtain ⟨en, hen⟩ : ∃ en, Hid (enK (begF text ent) text.length = en) := ⟨_, rfl⟩
      have HEn : Hid (EnP nm en) := by
        have h7 := enK_ok (f := begF text ent) (nm := nm)
        rw [← hnm.out, numL_len, hen.out, hnm.out] at h7
        exact h7
      have HTd : Hid (T = tdL nm en (eachL nm en)) := by unfold Hid; rw [← hT.out, tolT_yes hE.out, hnm.out, hen.out]
      have hl5 := hs hE.out
      have HNl : Hid (nm.length ≤ 2048) := by unfold Hid; rw [← hnm.out, numL_len]; omega
      have CAl := all_ok (some ⟨g1, 0, none⟩) (some ⟨g2, 0, none⟩) (text.length + 64) mem.length (mem.length + 64) ent text w15 (HT4.out.keep HB415.out) HR.out (by omega) hm hE.out (check_mayI hE.out).past.pos
      unfold AllOk at CAl
      rw [hnm.out, hen.out] at CAl
      gi_wp2_with fail
      refine ⟨trivial, (callsIn_wide.2 CAl).mono ?_⟩
      rintro e w16 ⟨B, S1, S2, S3, S4, k1, k2, k3, k4, rfl, -, hS, -, hb16⟩
      have HB16 : Hid (Below w11.heap.size w11 w16) := lb_trans HB15.out hb16
      have HS : Hid (RwS w16 B S1 S2 S3 S4 k1 k2 k3 k4 nm en) := hS
      have n1 := each_nil B
      have n2 := each_not B
      clear hb16 CAl y0 y1 y2 hS hl5
      obtain ⟨wb, hwb⟩ : ∃ wb, Hid (w16.alloc (.cells #[.slice none 0 0, .slice none 0 0, .slice none 0 0, .slice none 0 0, .slice none 0 0, .slice none 0 0, .slice none 0 0, .slice none 0 0, .slice none 0 0, .slice none 0 0, .slice none 0 0, .slice none 0 0, .slice none 0 0, .slice none 0 0, .slice none 0 0, .slice none 0 0, .slice none 0 0] 65) = wb) := ⟨_, rfl⟩
      have HG0 : Hid (BgS wb w16.heap.size [] [] (fun _ => .slice none 0 0)) := by unfold Hid; rw [← hwb.out]; exact bag_none w16
      have HBb : Hid (Below w16.heap.size w16 wb) := by unfold Hid; rw [← hwb.out]; exact lb_alloc (Below.refl _ _) _
      have HPT16 : Hid (TpsAt w16 Og PT) := HP11.out.keep HB16.out
      have CR := addrepeats_bg w16.heap.size _ PT Og cg w16 wb HG0.out HPT16.out HBb.out (Nat.le_refl _) hPl
      unfold BgP at CR
      gi_upto_region 16 with fail
      rw [hwb.out]
      clear hwb
      gi_wp2_with fail
      refine ⟨trivial, (callsIn_wide.2 CR).mono ?_⟩
      rintro e wc ⟨rfl, g3, hg3, hbc⟩
      have HG3 : Hid (BgS wc w16.heap.size (tkV PT 300) [.slice Og PT.length cg] g3) := hg3
      have HBc : Hid (Below w16.heap.size w16 wc) := HBb.out.trans hbc
      clear hg3 hbc CR HG0
      have CI := addints_bg w16.heap.size g3 (tkV PT 300) [.slice Og PT.length cg] Op L.length cp wc HG3.out (tkV_len PT 300)
      unfold BgP at CI
      gi_wp2_with fail
      refine ⟨trivial, (callsIn_wide.2 CI).mono ?_⟩
      rintro e wd ⟨rfl, g4, hg4, hbd⟩
      have HBd : Hid (Below w16.heap.size w16 wd) := HBc.out.trans hbd
      have HG4 : Hid (BgS wd w16.heap.size (if (tkV PT 300).length < 300 then tkV PT 300 ++ [tpV ((0, L), (Op, cp))] else tkV PT 300) [.slice Og PT.length cg] g4) := hg4
      clear hg4 hbd CI HG3
      have HB11d : Hid (Below w11.heap.size w11 wd) := lb_trans HB16.out HBd.out
      have HB11wd : Hid (Below w11.heap.size w11 wd) := HB11d.out
      have HBwwd : Hid (Below w.heap.size w wd) := lb_trans HB0.out (lb_trans HB4.out (lb_trans HB11.out HB11d.out))
      obtain ⟨We, hWe⟩ : ∃ We, Hid (wd.alloc (.cells #[.int .i64 0] 3) = We) := ⟨_, rfl⟩
      have HBe : Hid (Below wd.heap.size wd We) := by unfold Hid; rw [← hWe.out]; exact lb_alloc (Below.refl _ _) _
      have HC0 : Hid (Boxed We wd.heap.size 3 (.int .i64 0)) := by unfold Hid; rw [← hWe.out]; exact Boxed.new _ _ _
      have hes : We.heap.size = wd.heap.size + 1 := by rw [← hWe.out]; simp
      have HLo : Hid (∀ Z, ButS (fun b => b = wd.heap.size) We Z → Below wd.heap.size wd Z) := fun Z hZ => hZ.below HBe.out (fun k hk => by omega)
      have HRw : Hid (∀ Z, ButS (fun b => b = wd.heap.size) We Z → RwS Z B S1 S2 S3 S4 k1 k2 k3 k4 nm en) := fun Z hZ => HS.out.keep (lb_trans HBd.out (HLo.out Z hZ))
      have HMs : Hid (∀ Z, ButS (fun b => b = wd.heap.size) We Z → Z.cell? ⟨w.heap.size + 1, 0, none⟩ = some (.int .i64 most)) := fun Z hZ => HMo.out Z (lb_trans HB4.out (lb_trans HB11.out (lb_trans HB11d.out (HLo.out Z hZ))))
      have HWn : Hid (∀ Z, ButS (fun b => b = wd.heap.size) We Z → Z.cell? ⟨w6.heap.size, 0, none⟩ = some (.slice Aq QT.length cq) ∧ TpsAt Z Aq QT) := fun Z hZ => by
        have hb := lb_trans HB11d.out (HLo.out Z hZ)
        exact ⟨Boxed.cell ((hb.block _ HWb1.out.lt).trans HWb1.out), HQ11.out.keep hb⟩
      have HFd : Hid (fsts QT = tdL nm en (eachL nm en)) := by unfold Hid; rw [HQ.out, HTd.out]
      have HEl : Hid ((eachL nm en).length ≤ 4200000) := eachL_few HNl.out
      clear hl hm hs ha hn hn3 hm8
      gi_wp2_with fail
      rw [hWe.out]
      clear hWe
      refine range_eachW 5 (by decide) 0 0 B S1 S2 S3 S4 k1 k2 k3 k4 nm en HEn.out HNl.out rfl rfl (Nat.zero_le _) (AllI wd.heap.size We) (AllI wd.heap.size We) (fun _ Z h => HRw.out Z h.but) (fun _ _ _ h t => h.turn t (Nat.le_refl _)) (fun _ _ _ h t => h.turn t (Nat.le_refl _)) ⟨HC0.out, ButS.refl _ _⟩ ?round (fun _ _ h => h) ?fin
      case round =>
        intro l0 T' r O c W Wq hp hIq hzq hbq hrow
        refine wpIn_skip ⟨Below.refl _ _, fun W3 tn => ?_⟩
        have hI : AllI wd.heap.size We T' W3 := hIq.turn ((Turn.of hbq hzq).trans tn) (Nat.le_refl _)
        have hc := hI.cnt.cell
        have hf := hI.cnt.frozen
        have HI2 : Hid (AllI wd.heap.size We (T' ++ [r]) (W3.setCell ⟨wd.heap.size, 0, none⟩ (.int .i64 ((T'.length : Int) + 1)))) := hI.set r
        have hc2 : (W3.setCell ⟨wd.heap.size, 0, none⟩ (.int .i64 ((T'.length : Int) + 1))).cell? ⟨wd.heap.size, 0, none⟩ = some (.int .i64 ((T'.length : Int) + 1)) := (hI.cnt.set _).cell
        have hm2 := HMs.out _ HI2.out.but
        have hm3 := HMs.out W3 hI.but
        have hw5 : w.heap.size + 1 < wd.heap.size := by
          have h1 := (lb_trans HB4.out (lb_trans HB11.out HB11d.out)).size
          have h2 := HS0.out
          omega
        have hw6 : ¬ w.heap.size + 1 = wd.heap.size := by omega
        have hw7 : ¬ wd.heap.size = w.heap.size + 1 := by omega
        have HK : Hid (Kept 0 We.heap.size W3 (W3.setCell ⟨wd.heap.size, 0, none⟩ (.int .i64 ((T'.length : Int) + 1)))) := Kept.set hI.cnt (Nat.zero_le _) _
        have hTl : T'.length + 1 ≤ (eachL nm en).length := by
          have := hp.length_le
          rw [List.length_append] at this
          exact this
        have hTm : (T'.length : Int) ≤ 4200000 := by have := HEl.out; omega
        clear hI hp hIq hzq hbq hrow tn hTl hes
        by_cases hme : (T'.length : Int) + 1 = most
        · have hme2 : (((T'.length : Int) + 1) == most) = true := by simpa using hme
          rw [hme] at HK HI2
          gi_wp2
          exact ⟨HK.out, rfl, HI2.out⟩
        · have hme2 : (((T'.length : Int) + 1) == most) = false := by simpa using hme
          gi_wp2
          exact ⟨HK.out, HI2.out⟩
      case fin =>
        intro D1 W hD1 hor hK1
        obtain ⟨T', hI⟩ : ∃ T', AllI wd.heap.size We T' W := by
          rcases hor with h | ⟨T', _, h⟩
          · exact ⟨_, h⟩
          · exact ⟨T', h⟩
        have hc := hI.cnt.cell
        have hf := hI.cnt.frozen
        obtain ⟨Wf, hWf⟩ : ∃ Wf, Hid (W.setCell ⟨wd.heap.size, 0, none⟩ (.int .i64 0) = Wf) := ⟨_, rfl⟩
        have HCf : Hid (Boxed Wf wd.heap.size 3 (.int .i64 0)) := by unfold Hid; rw [← hWf.out]; exact hI.cnt.set _
        have HBf : Hid (ButS (fun b => b = wd.heap.size) We Wf) := by unfold Hid; rw [← hWf.out]; exact hI.but.set rfl 0 _
        have HKf : Hid (Wf.heap[D1]? = some (.deferred (some []))) := by unfold Hid; rw [← hWf.out]; exact (Below.heap_setCell _ _ _ _ (show D1 ≠ wd.heap.size by omega)).trans hK1
        have HD1 : Hid (We.heap.size ≤ D1) := hD1
        clear hor hK1 hI hD1
        gi_wp2_with fail
        rw [hWf.out]
        clear hWf hc hf
        refine range_eachW 5 (by decide) 2 0 B S1 S2 S3 S4 k1 k2 k3 k4 nm en HEn.out HNl.out rfl rfl (Nat.zero_le _) (AllI wd.heap.size Wf) (fun _ _ => False) (fun _ Z h => HRw.out Z (HBf.out.trans h.but)) (fun _ _ _ h t => h.turn t (Nat.le_refl _)) (fun _ _ _ h _ => h.elim) ⟨HCf.out, ButS.refl _ _⟩ ?round (fun _ _ h => h) ?fin
        case round =>
          intro l0 T' r O c W' Wq hp hIq hzq hbq hrow
          unfold repV
          gi_wp2
          refine ⟨lb_alloc (Below.refl _ _) _, fun W3 tn => ?_⟩
          have hws : Wf.heap.size ≤ W'.heap.size := Nat.le_trans hzq hbq.size
          have hbx : W3.heap[W'.heap.size]? = some (.cells #[.int .i64 (r.1 : Int), .slice O (plcS nm en r.2 r.1).length c] 69) := tn.box (heap_alloc_new W' _)
          have v0 : W3.cell? ⟨W'.heap.size, 0, none⟩ = some (.int .i64 (r.1 : Int)) := by simp [World.cell?, hbx]
          have v1 : W3.cell? ⟨W'.heap.size, 1, none⟩ = some (.slice O (plcS nm en r.2 r.1).length c) := by simp [World.cell?, hbx]
          have hI : AllI wd.heap.size Wf T' W3 := hIq.turn (((Turn.of hbq hzq).trans (Turn.of (lb_alloc (Below.refl _ _) _) hws)).trans tn) (Nat.le_refl _)
          have hrow3 := tn.row (hrow.alloc (.cells #[.int .i64 (r.1 : Int), .slice O (plcS nm en r.2 r.1).length c] 69))
          obtain ⟨wc, hQ3⟩ := HWn.out W3 (HBf.out.trans hI.but)
          obtain ⟨hlt, hfst⟩ := fst_at HFd.out hp
          obtain ⟨a, ea, x0, x1, x2⟩ := hQ3 T'.length hlt
          subst ea
          unfold tpV at x1
          obtain ⟨⟨⟨n5, L5⟩, ⟨O5, c5⟩⟩, hp5⟩ : ∃ p, pth QT T'.length = p := ⟨_, rfl⟩
          rw [hp5] at x0 x1 x2 hfst
          cases hfst
          simp only at x0 x1
          have hpf := plcS_few nm en r.2 r.1
          have hnl := HNl.out
          have CE := fun Z (hZ : Below W3.heap.size W3 Z) => eqrepeat_same r.1 (nV64 (plcS nm en r.2 r.1)) O O5 c c5 Z ((row_ints (l := nV64 (plcS nm en r.2 r.1)) (by rw [nV64_len]; exact hrow3)).keep hZ) (x2.keep hZ) (by rw [nV64_len]; omega)
          simp only [nV64_len] at CE
          have hTl : T'.length + 1 ≤ (eachL nm en).length := by
            have := hp.length_le
            rw [List.length_append] at this
            exact this
          have hTm : (T'.length : Int) ≤ 4200000 := by have := HEl.out; omega
          have hlt1 : (T'.length : Int) < (QT.length : Int) := by omega
          have hlt2 : ¬ (QT.length : Int) ≤ (T'.length : Int) := by omega
          have hlt3 : decide ((QT.length : Int) ≤ (T'.length : Int)) = false := decide_eq_false hlt2
          have hc := hI.cnt.cell
          have hf := hI.cnt.frozen
          have HI3 : Hid (AllI wd.heap.size Wf T' W3) := hI
          have BX : Below W3.heap.size W3 W3.drew := (Below.refl _ _).drew
          have hmix : Tryz.prog.follows .mixedOrders = true := by kernel_rfl
          clear hbx hI hrow3 hQ3 x2 hpf hnl hp hIq hzq hbq hrow tn hTl hp5 hws
          generalize (plcS nm en r.2 r.1).length = l5 at *
          gi_upto_region 26 with fail
          gi_region_with_o ((refine ⟨trivial, (CallsIn.inRound l0 (callsIn_wide.2 (CE _ BX))).mono ?_⟩; rintro e w5 ⟨rfl, hb5⟩))
          all_goals (
            have HI5 : Hid (AllI wd.heap.size Wf T' w5) := HI3.out.below (lb_trans BX hb5)
            have HB5 : Hid (Below W3.heap.size W3 w5) := lb_trans BX hb5
            clear hb5 BX CE HI3 hc hf x0 x1 v0 v1 wc
            have hc := HI5.out.cnt.cell
            have hf := HI5.out.cnt.frozen
            gi_wp2
            exact ⟨(Kept.of HB5.out (Nat.zero_le _)).trans (Kept.set HI5.out.cnt (Nat.zero_le _) _), HI5.out.set r⟩)
        case fin =>
          intro D2 W2 hD2 hor hK2
          have hI : AllI wd.heap.size Wf (eachL nm en) W2 := by
            rcases hor with h | ⟨T', _, h⟩
            · exact h
            · exact h.elim
          have hb2 : ButS (fun b => b = wd.heap.size) We W2 := HBf.out.trans hI.but
          have HBwd2 : Hid (Below wd.heap.size wd W2) := HLo.out W2 hb2
          have HBwW2 : Hid (Below w.heap.size w W2) := lb_trans HBwwd.out HBwd2.out
          have HB11W2 : Hid (Below w11.heap.size w11 W2) := lb_trans HB11d.out HBwd2.out
          have HG5 : Hid (BgS W2 w16.heap.size (if (tkV PT 300).length < 300 then tkV PT 300 ++ [tpV ((0, L), (Op, cp))] else tkV PT 300) [.slice Og PT.length cg] g4) := HG4.out.keep HBwd2.out
          have hc := hI.cnt.cell
          obtain ⟨wc, -⟩ := HWn.out W2 hb2
          have hQl : QT.length = (eachL nm en).length := by
            have h7 := congrArg List.length HFd.out
            unfold fsts tdL at h7
            rwa [List.length_map, List.length_map] at h7
          have hne : (((eachL nm en).length : Int) != (QT.length : Int)) = false := by rw [hQl]; simp
          have HK2 : Hid (W2.heap[D2]? = some (.deferred (some []))) := hK2
          have HK1 : Hid (W2.heap[D1]? = some (.deferred (some []))) := (hI.but.2.2.2.2 D1 (Array.getElem?_eq_some_iff.1 HKf.out).1 (by have := HD1.out; omega)).trans HKf.out
          have HD2 : Hid (D1 < D2) := by
            have := (Array.getElem?_eq_some_iff.1 HKf.out).1
            unfold Hid
            omega
          clear hor hK2 hI hb2 hQl hD2
          generalize (eachL nm en).length = le at *
          generalize QT.length = ql at *
          have AP := apart_bag w16.heap.size g4 PT ((0, L), (Op, cp)) Og cg W4.heap.size w9.heap.size W4.heap.size W2 HG5.out (fun p hp => row_keep (HA5.out p hp) (lb_trans HB57.out (lb_trans HB7b.out HB11W2.out))) HSp.out (row_keep HOp1.out HB11W2.out) HPS.out (row_keep HO5.out (lb_trans HB57.out (lb_trans HB7b.out HB11W2.out))) HPL.out HPl.out hPl
          have HPk : Hid (∀ b, Pk (rowsB PT ((0, L), (Op, cp))) [(.slice Og PT.length cg, PT.length)] 17 b → W0.heap.size ≤ b ∧ b < wd.heap.size) := fun b hb => by
            have s1 := HB4.out.size
            have s2 := HB9.out.size
            rcases hb with ⟨-, m, hm, e⟩ | ⟨-, m, hm, e⟩
            · obtain ⟨p, hp, e2⟩ := rowsB_mem (rv_mem hm)
              injection e2 with e3 e4
              rw [e3] at e
              rcases hp with hp | rfl
              · have h7 := (HA5.out p hp).lt b e
                have s3 := (lb_trans HB57.out (lb_trans HB7b.out HB11d.out)).size
                omega
              · have h7 := HOp1.out.lt b e
                have s3 := HB11d.out.size
                omega
            · obtain rfl : m = 0 := by simpa using hm
              have h7 := HO5.out.lt b e
              have s3 := (lb_trans HB57.out (lb_trans HB7b.out HB11d.out)).size
              omega
          have hw0 : w.heap.size ≤ W0.heap.size := HB0.out.size
          gi_wp2_with fail
          refine ⟨trivial, (callsIn_wide.2 AP).mono ?_⟩
          rintro e w20 ⟨rfl, hfr⟩
          have hb20 := hfr.below (n := w.heap.size) HBwW2.out HBwW2.out.size (fun b hb => by have := HPk.out b hb; omega)
          have HB20 : Hid (Below w.heap.size w w20) := hb20
          have HFr : Hid (FrB (Pk (rowsB PT ((0, L), (Op, cp))) [(.slice Og PT.length cg, PT.length)] 17) W2 w20) := hfr
          clear hfr hb20 AP
          gi_wp2_with fail
          refine ⟨trivial, (callsIn_wide.2 (lives_any w20)).mono ?_⟩
          rintro e w21 ⟨rfl, hb21⟩
          have HB21 : Hid (Below w.heap.size w w21) := lb_trans HB20.out hb21
          have HSt : Hid (∀ b, b < W2.heap.size → (b < W0.heap.size ∨ wd.heap.size ≤ b) → w21.heap[b]? = W2.heap[b]?) := fun b hb ho => (hb21.block b (Nat.lt_of_lt_of_le hb HFr.out.size)).trans (HFr.out.block b hb (fun hp => by have := HPk.out b hp; omega))
          have r8W : Boxed W2 (w.heap.size + 1 + 1) 4 (.bool false) := HR8.out W2 (lb_trans HB4.out (lb_trans HB11.out HB11W2.out))
          have r8 : Boxed w21 (w.heap.size + 1 + 1) 4 (.bool false) := (HSt.out _ r8W.lt (by have := HS0.out; omega)).trans r8W
          have rc := r8.cell
          have rf := r8.frozen
          have z := (r8.set (.bool true)).cell
          have HR21 : Hid (Boxed w21 (w.heap.size + 1 + 1) 4 (.bool false)) := r8
          clear hb21 r8 r8W
          gi_wp2
          have h01 := (lb_trans HB4.out (lb_trans HB11.out HB11d.out)).size
          have h02 := HS0.out
          have h03 := HD1.out
          have h04 := HD2.out
          have l1 := (Array.getElem?_eq_some_iff.1 HK1.out).1
          have l2 := (Array.getElem?_eq_some_iff.1 HK2.out).1
          obtain ⟨w22, hw22⟩ : ∃ w22, w21.setCell ⟨w.heap.size + 1 + 1, 0, none⟩ (.bool true) = w22 := ⟨_, rfl⟩
          have qK2 : w22.heap[D2]? = some (.deferred (some [])) := by rw [← hw22]; exact (Below.heap_setCell _ _ _ _ (show D2 ≠ w.heap.size + 1 + 1 by omega)).trans ((HSt.out D2 l2 (.inr (by omega))).trans HK2.out)
          have qK1 : w22.heap[D1]? = some (.deferred (some [])) := by rw [← hw22]; exact (Below.heap_setCell _ _ _ _ (show D1 ≠ w.heap.size + 1 + 1 by omega)).trans ((HSt.out D1 l1 (.inr (by omega))).trans HK1.out)
          have r9 : Boxed w22 (w.heap.size + 1 + 1) 4 (.bool true) := by rw [← hw22]; exact HR21.out.set _
          have hb22 : Below w.heap.size w w22 := by rw [← hw22]; exact HB21.out.setCell (by show w.heap.size ≤ w.heap.size + 1 + 1; omega) _
          rw [hw22]
          clear hw22
          refine ⟨by simp, .inl ⟨_, _, rfl, run_takeDeferred qK2, ?_⟩⟩
          have qK3 : (w22.putObj D2 (.deferred none)).heap[D1]? = some (.deferred (some [])) := (World.putObj_heap_other (by omega)).trans qK1
          refine ⟨by simp, .inl ⟨_, _, rfl, run_takeDeferred qK3, ?_⟩⟩
          have r10 : Boxed ((w22.putObj D2 (.deferred none)).putObj D1 (.deferred none)) (w.heap.size + 1 + 1) 4 (.bool true) := (World.putObj_heap_other (by omega)).trans ((World.putObj_heap_other (by omega)).trans r9)
          have z9 := r10.cell
          refine ⟨.bool true, by simp [results, Tryz.results3, go_sem, z9], rfl, ?_⟩
          exact hb22.trans ((below_put (by omega)).trans (below_put (by omega)))
    · have CAl := all_no (some ⟨g1, 0, none⟩) (some ⟨g2, 0, none⟩) (text.length + 64) mem.length (mem.length + 64) ent text w15 (HT4.out.keep HB415.out) HR.out hl hm (by rw [hE.out]; exact hE0)
      rw [hE.out] at CAl
      have hx : (E != 0) = true := by simpa using hE0
      have n1 := nil_is
      have n2 := nil_not
      gi_wp2_with fail
      refine ⟨trivial, (callsIn_wide.2 CAl).mono ?_⟩
      rintro e w16 ⟨rfl, hb16⟩
      have HB16 : Hid (Below w11.heap.size w11 w16) := lb_trans HB15.out hb16
      clear hb16 CAl y0 y1 y2
      obtain ⟨wb, hwb⟩ : ∃ wb, Hid (w16.alloc (.cells #[.slice none 0 0, .slice none 0 0, .slice none 0 0, .slice none 0 0, .slice none 0 0, .slice none 0 0, .slice none 0 0, .slice none 0 0, .slice none 0 0, .slice none 0 0, .slice none 0 0, .slice none 0 0, .slice none 0 0, .slice none 0 0, .slice none 0 0, .slice none 0 0, .slice none 0 0] 65) = wb) := ⟨_, rfl⟩
      have HG0 : Hid (BgS wb w16.heap.size [] [] (fun _ => .slice none 0 0)) := by unfold Hid; rw [← hwb.out]; exact bag_none w16
      have HBb : Hid (Below w16.heap.size w16 wb) := by unfold Hid; rw [← hwb.out]; exact lb_alloc (Below.refl _ _) _
      have HPT16 : Hid (TpsAt w16 Og PT) := HP11.out.keep HB16.out
      have CR := addrepeats_bg w16.heap.size _ PT Og cg w16 wb HG0.out HPT16.out HBb.out (Nat.le_refl _) hPl
      unfold BgP at CR
      gi_upto_region 16 with fail
      rw [hwb.out]
      clear hwb
      gi_wp2_with fail
      refine ⟨trivial, (callsIn_wide.2 CR).mono ?_⟩
      rintro e wc ⟨rfl, g3, hg3, hbc⟩
      have HG3 : Hid (BgS wc w16.heap.size (tkV PT 300) [.slice Og PT.length cg] g3) := hg3
      have HBc : Hid (Below w16.heap.size w16 wc) := HBb.out.trans hbc
      clear hg3 hbc CR HG0
      have CI := addints_bg w16.heap.size g3 (tkV PT 300) [.slice Og PT.length cg] Op L.length cp wc HG3.out (tkV_len PT 300)
      unfold BgP at CI
      gi_wp2_with fail
      refine ⟨trivial, (callsIn_wide.2 CI).mono ?_⟩
      rintro e wd ⟨rfl, g4, hg4, hbd⟩
      have HBd : Hid (Below w16.heap.size w16 wd) := HBc.out.trans hbd
      have HG4 : Hid (BgS wd w16.heap.size (if (tkV PT 300).length < 300 then tkV PT 300 ++ [tpV ((0, L), (Op, cp))] else tkV PT 300) [.slice Og PT.length cg] g4) := hg4
      clear hg4 hbd CI HG3
      have HB11d : Hid (Below w11.heap.size w11 wd) := lb_trans HB16.out HBd.out
      have HB11wd : Hid (Below w11.heap.size w11 wd) := HB11d.out
      have HBwwd : Hid (Below w.heap.size w wd) := lb_trans HB0.out (lb_trans HB4.out (lb_trans HB11.out HB11d.out))
      have AP := apart_bag w16.heap.size g4 PT ((0, L), (Op, cp)) Og cg W4.heap.size w9.heap.size W4.heap.size wd HG4.out (fun p hp => row_keep (HA5.out p hp) (lb_trans HB57.out (lb_trans HB7b.out HB11d.out))) HSp.out (row_keep HOp1.out HB11d.out) HPS.out (row_keep HO5.out (lb_trans HB57.out (lb_trans HB7b.out HB11d.out))) HPL.out HPl.out hPl
      have HPk : Hid (∀ b, Pk (rowsB PT ((0, L), (Op, cp))) [(.slice Og PT.length cg, PT.length)] 17 b → W0.heap.size ≤ b ∧ b < wd.heap.size) := fun b hb => by
        have s1 := HB4.out.size
        have s2 := HB9.out.size
        rcases hb with ⟨-, m, hm, e⟩ | ⟨-, m, hm, e⟩
        · obtain ⟨p, hp, e2⟩ := rowsB_mem (rv_mem hm)
          injection e2 with e3 e4
          rw [e3] at e
          rcases hp with hp | rfl
          · have h7 := (HA5.out p hp).lt b e
            have s3 := (lb_trans HB57.out (lb_trans HB7b.out HB11d.out)).size
            omega
          · have h7 := HOp1.out.lt b e
            have s3 := HB11d.out.size
            omega
        · obtain rfl : m = 0 := by simpa using hm
          have h7 := HO5.out.lt b e
          have s3 := (lb_trans HB57.out (lb_trans HB7b.out HB11d.out)).size
          omega
      have hw0 : w.heap.size ≤ W0.heap.size := HB0.out.size
      gi_wp2_with fail
      refine ⟨trivial, (callsIn_wide.2 AP).mono ?_⟩
      rintro e w20 ⟨rfl, hfr⟩
      have hb20 := hfr.below (n := w.heap.size) HBwwd.out HBwwd.out.size (fun b hb => by have := HPk.out b hb; omega)
      have HB20 : Hid (Below w.heap.size w w20) := hb20
      have HFr : Hid (FrB (Pk (rowsB PT ((0, L), (Op, cp))) [(.slice Og PT.length cg, PT.length)] 17) wd w20) := hfr
      clear hfr hb20 AP
      gi_wp2_with fail
      refine ⟨trivial, (callsIn_wide.2 (lives_any w20)).mono ?_⟩
      rintro e w21 ⟨rfl, hb21⟩
      have HB21 : Hid (Below w.heap.size w w21) := lb_trans HB20.out hb21
      have HSt : Hid (∀ b, b < wd.heap.size → (b < W0.heap.size ∨ wd.heap.size ≤ b) → w21.heap[b]? = wd.heap[b]?) := fun b hb ho => (hb21.block b (Nat.lt_of_lt_of_le hb HFr.out.size)).trans (HFr.out.block b hb (fun hp => by have := HPk.out b hp; omega))
      have r8W : Boxed wd (w.heap.size + 1 + 1) 4 (.bool false) := HR8.out wd (lb_trans HB4.out (lb_trans HB11.out HB11wd.out))
      have r8 : Boxed w21 (w.heap.size + 1 + 1) 4 (.bool false) := (HSt.out _ r8W.lt (by have := HS0.out; omega)).trans r8W
      have rc := r8.cell
      have rf := r8.frozen
      have z := (r8.set (.bool true)).cell
      have HR21 : Hid (Boxed w21 (w.heap.size + 1 + 1) 4 (.bool false)) := r8
      clear hb21 r8 r8W
      gi_wp2
      refine ⟨.bool true, by simp [results, Tryz.results3, go_sem, z], rfl, ?_⟩
      exact HB21.out.setCell (by show w.heap.size ≤ w.heap.size + 1 + 1; omega) _

end Go.Proofs.YtokhclindfipbaaGreatDoor
