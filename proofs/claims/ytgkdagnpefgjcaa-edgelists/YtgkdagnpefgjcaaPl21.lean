/-
  Reached of the document, by what it answers. The statement EdgeLists, walked. Edges turned round, step by step; no Go in sight.
-/
import Derived.Test.YtgkdagnpefgjcaaProg
import Derived.WalkKit
import Derived.WalkSpells
import Derived.WalkLawsBesides
import Derived.RowKit3
import Derived.Below
import Derived.Deep.QuietTactic
import Derived.BigQuiet
import Derived.WalkSmall
import Derived.Laws.Rows
import Derived.Test.YtgkdagnpefgjcaaPl14
import Derived.Test.YtgkdagnpefgjcaaPl16
import Derived.Test.YtgkdagnpefgjcaaPl20
import Derived.Test.YtgkdagnpefgjcaaPl12
import Derived.Test.YtgkdagnpefgjcaaPl13
import Derived.Test.YtgkdagnpefgjcaaPl11
import Derived.Test.YtgkdagnpefgjcaaPl05
namespace Go.Proofs.Ytgkdagnpefgjcaa
open Go.RowKit

set_option maxRecDepth 100000 in
set_option maxHeartbeats 8000000 in
theorem refreached_any (A1 A2 : Option Addr) (c1 ml c2 : Nat) (ent : Int) (text : List Int) (w : World) (hT : IntsAt w A1 .u32 text) (hR : ∀ i, i < text.length → 0 ≤ nth text i ∧ nth text i < 4294967296) (hM : MayI text ml ent) :
    Calls Try.prog 15 #[.agg #[.slice A1 text.length c1, .int .i64 ent, .slice A2 ml c2]] w (MarkP (blkL text ent).length (rchF (edgT text ent (blkL text ent).length) (ofB (blkL text ent) ent)) w) := by
  have hl : text.length ≤ 16384 := hM.past.len
  have hLt := blk_len_le text ent
  obtain ⟨eb, heb, hof⟩ := ent_blk hM.past.ent0 hM.past.ent1
  have HEl : Hid ((edgT text ent (blkL text ent).length).length = (blkL text ent).length) := edgT_len text ent _
  have HEi : Hid (∀ k t, k < (blkL text ent).length → t < (rowZ (edgT text ent (blkL text ent).length) k).length → 0 ≤ nth (rowZ (edgT text ent (blkL text ent).length) k) t ∧ nth (rowZ (edgT text ent (blkL text ent).length) k) t < ((blkL text ent).length : Int)) := fun k t hk ht => edg_in hk ht
  have HEr : Hid (∀ k, k < (blkL text ent).length → (rowZ (edgT text ent (blkL text ent).length) k).length ≤ 65536) := fun k hk => by
    rw [edg_row hk]
    have := plcT_len (edgR text ent k) (blkL text ent).length
    omega
  obtain ⟨W, HW⟩ : ∃ W, Hid (w.alloc (.cells #[.slice A1 text.length c1, .int .i64 ent, .slice A2 ml c2] 25) = W) := ⟨_, rfl⟩
  have HB : Hid (Below w.heap.size w W) := by unfold Hid; rw [← HW.out]; exact lb_alloc (Below.refl _ _) _
  have i0 : W.cell? ⟨w.heap.size, 0, none⟩ = some (.slice A1 text.length c1) := by rw [← HW.out]; simp [go_sem]
  have i1 : W.cell? ⟨w.heap.size, 1, none⟩ = some (.int .i64 ent) := by rw [← HW.out]; simp [go_sem]
  have i2 : W.cell? ⟨w.heap.size, 2, none⟩ = some (.slice A2 ml c2) := by rw [← HW.out]; simp [go_sem]
  have C1 := refblocks_any A1 A2 c1 ml c2 ent text W (hT.keep HB.out) hR hM
  have C2 := fun wx (hx : Below w.heap.size w wx) => refedges_any A1 A2 c1 ml c2 ent text wx (hT.keep hx) hR hM
  have C3 := fun wx B cB (hx : RelsAt wx B (blkL text ent)) => refof_any B cB (blkL text ent) ent wx hx (by omega)
  rw [hof] at C3 ⊢
  clear hof hT hR hM
  generalize edgT text ent (blkL text ent).length = EE at *
  generalize blkL text ent = L at *
  have hmk := make_bls L.length (by omega)
  go_enter Try.func15, Try.ntmps15
  go_upto_region 1 with fail
  rw [HW.out]
  clear HW
  go_upto_region 3 with (first
    | (go_at_call 26; refine C1.mono ?_; rintro e w1 ⟨B, cB, rfl, hrl, hb1⟩; have HB1 : Hid (Below w.heap.size w w1) := lb_trans HB.out hb1; have HL1 : Hid (RelsAt w1 B L) := hrl; have m0 := lkeep hb1 i0; have m1 := lkeep hb1 i1; have m2 := lkeep hb1 i2; clear hrl hb1 i0 i1 i2 C1)
    | (go_at_call 11; refine (C2 _ HB1.out).mono ?_; rintro e w2 ⟨A, cA, vs, rfl, hz, hb2⟩; have HB2 : Hid (Below w.heap.size w w2) := lb_trans HB1.out hb2; have HL2 : Hid (RelsAt w2 B L) := HL1.out.keep hb2; have HE : Hid (IntsZ w2 A EE) := hz.ints; have n1 := lkeep hb2 m1; clear hz hb2 m0 m1 m2 C2 HL1))
  obtain ⟨X, HX⟩ : ∃ X, Hid (w2.alloc (.cells (madeCells #[.bool false] L.length) 4) = X) := ⟨_, rfl⟩
  have HBX : Hid (Below w2.heap.size w2 X) := by unfold Hid; rw [← HX.out]; exact lb_alloc (Below.refl _ _) _
  have HSX : Hid (BlsAt X w2.heap.size L.length noF) := by unfold Hid; rw [← HX.out]; exact BlsAt.made w2 L.length
  have x1 := lkeep HBX.out n1
  clear n1
  go_upto_region 4 with fail
  rw [HX.out]
  clear HX hmk
  go_upto_region 5 with (go_at_call 31; refine (C3 _ _ _ (HL2.out.keep HBX.out)).mono ?_; rintro e w3 ⟨rfl, hb3⟩; have HB3 : Hid (Below w2.heap.size w2 w3) := lb_trans HBX.out hb3; have HS3 : Hid (BlsAt w3 w2.heap.size L.length noF) := HSX.out.keep hb3; have s0 := HS3.out.cellN heb; have s1 := HS3.out.fro eb; clear hb3)
  have HS4 : Hid (BlsAt (w3.setCell ⟨w2.heap.size, eb, none⟩ (.bool true)) w2.heap.size L.length (setF noF (eb : Int))) := HS3.out.setN heb
  have HB4 : Hid (Below w2.heap.size w2 (w3.setCell ⟨w2.heap.size, eb, none⟩ (.bool true))) := below_setAt HB3.out (Nat.le_refl _) HB3.out.size
  clear HS3 HB3 s0 s1 x1 HSX HBX C3 HL2
  go_wp2
  go_loopw [6] (fun v wr => ∃ (m : Bool) (F : Int → Bool), v = .bool m ∧ Hid (BlsAt wr w2.heap.size L.length F) ∧ Hid (Snd EE (eb : Int) F) ∧ Hid (m = false → Cls EE F L.length) ∧ Hid (Below w2.heap.size w2 wr)) (fun v wr => 2 * lowN (cellF wr w2.heap.size) L.length + bolOf v)
  case atStart => exact ⟨true, _, rfl, HS4, snd_zero _ _, fun h => (by cases h), HB4⟩
  case round =>
    clear HS4 HB4
    obtain ⟨m, F, rfl, HS, HN, HC, HBr⟩ := hrel
    cases m with
    | false =>
      go_wp2
      go_ret
      exact ⟨w2.heap.size, rfl, HS.out.fit (rch_same HN.out (by rw [HEl.out]; first | exact HC.out rfl | exact HC.out trivial)), lb_trans HB2.out HBr.out⟩
    | true =>
      have HM0 : Hid (lowN (cellF wr w2.heap.size) L.length = lowN F L.length) := HS.out.low
      clear HC
      go_wp2
      go_loopw [6, 7] (fun v i wr => ∃ (m : Bool) (k : Nat) (G : Int → Bool), v = .bool m ∧ i = .int .i64 k ∧ k ≤ L.length ∧ Hid (BlsAt wr w2.heap.size L.length G) ∧ Hid (Snd EE (eb : Int) G) ∧ Hid (Onw EE L.length F G m k) ∧ Hid (Below w2.heap.size w2 wr)) (fun _ i _ => L.length - (intOf i).toNat)
      case atStart => exact ⟨false, 0, F, rfl, rfl, Nat.zero_le _, HS, HN, Onw.zero _ _ _, HBr⟩
      case round =>
        clear HS HN HBr
        obtain ⟨m, k, G, rfl, rfl, hk, HS, HN, HO, HBr⟩ := hrel
        by_cases hlt : k < L.length
        · have hlt' : (k : Int) < (L.length : Int) := by omega
          have hkE : k < EE.length := by rw [HEl.out]; exact hlt
          have hkE' : (k : Int) < (EE.length : Int) := by omega
          obtain ⟨a, R, kr, ea, q, qr⟩ := HE.out k hkE
          subst ea
          have HQ : Hid (w2.cell? (a.add k) = some (.slice R (rowZ EE k).length kr)) := q
          have HQr : Hid (IntsAt w2 R .i64 (rowZ EE k)) := qr
          have hrl := HEr.out k hlt
          clear q qr
          go_wp2
          go_loopw [6, 8] (fun v i wr => ∃ (m : Bool) (j : Nat) (G : Int → Bool), v = .bool m ∧ i = .int .i64 j ∧ j ≤ (rowZ EE k).length ∧ Hid (BlsAt wr w2.heap.size L.length G) ∧ Hid (Snd EE (eb : Int) G) ∧ Hid (Onw2 EE L.length F G m k j) ∧ Hid (Below w2.heap.size w2 wr)) (fun _ i _ => (rowZ EE k).length - (intOf i).toNat)
          case atStart => exact ⟨m, 0, G, rfl, rfl, Nat.zero_le _, HS, HN, HO.out.start, HBr⟩
          case round =>
            clear HS HN HO HBr
            obtain ⟨m, j, G, rfl, rfl, hj, HS, HN, HO, HBr⟩ := hrel
            have q := lkeep HBr.out HQ.out
            by_cases hjl : j < (rowZ EE k).length
            · have hjl' : (j : Int) < ((rowZ EE k).length : Int) := by omega
              have s0 := HS.out.cellN hlt
              cases hg : G (k : Int) with
              | false =>
                rw [hg] at s0
                go_wp2
                go_roundw
                case rel => exact ⟨m, k + 1, G, rfl, by go_num, by omega, HS, HN, HO.out.stop (.inr hg), HBr⟩
                case measure => simp [intOf]; omega
              | true =>
                rw [hg] at s0
                obtain ⟨b, eb2, r⟩ := HQr.out j hjl
                subst eb2
                replace r := lkeep HBr.out r
                obtain ⟨z0, z1⟩ := HEi.out k j hlt hjl
                have HN2 : Hid (Snd EE (eb : Int) (setF G (nth (rowZ EE k) j))) := HN.out.more hg hjl
                have t0 := HS.out.cell z0 z1
                have t1 := HS.out.fro (nth (rowZ EE k) j).toNat
                clear hg
                cases hx : G (nth (rowZ EE k) j) with
                | true =>
                  have HO2 : Hid (Onw2 EE L.length F G m k (j + 1)) := HO.out.met hx
                  rw [hx] at t0
                  clear hx
                  generalize nth (rowZ EE k) j = x at *
                  go_wp2
                  go_roundw
                  case rel => exact ⟨m, j + 1, G, rfl, by go_num, by omega, HS, HN, HO2, HBr⟩
                  case measure => simp [intOf]; omega
                | false =>
                  have HO2 : Hid (Onw2 EE L.length F (setF G (nth (rowZ EE k) j)) true k (j + 1)) := HO.out.new z0 z1 hx
                  rw [hx] at t0
                  clear hx
                  generalize nth (rowZ EE k) j = x at *
                  have HS2 : Hid (BlsAt (wr.setCell ⟨w2.heap.size, x.toNat, none⟩ (.bool true)) w2.heap.size L.length (setF G x)) := HS.out.set z0 z1
                  have HB2' : Hid (Below w2.heap.size w2 (wr.setCell ⟨w2.heap.size, x.toNat, none⟩ (.bool true))) := below_setAt HBr.out (Nat.le_refl _) HBr.out.size
                  go_wp2
                  go_roundw
                  case rel => exact ⟨true, j + 1, _, rfl, by go_num, by omega, HS2, HN2, HO2, HB2'⟩
                  case measure => simp [intOf]; omega
            · obtain rfl : j = (rowZ EE k).length := by omega
              go_wp2
              go_roundw
              case rel => exact ⟨m, k + 1, G, rfl, by go_num, by omega, HS, HN, HO.out.stop (.inl (Nat.le_refl _)), HBr⟩
              case measure => simp [intOf]; omega
        · obtain rfl : k = L.length := by omega
          go_wp2
          go_roundw
          case rel => exact ⟨m, G, rfl, HS, HN, HO.out.done, HBr⟩
          case measure =>
            rw [HS.out.low, HM0.out]
            cases m with
            | true => have := HO.out.2 rfl; simp [bolOf]; omega
            | false => rw [(HO.out.1 rfl).1]; simp [bolOf]


end Go.Proofs.Ytgkdagnpefgjcaa

namespace Go.Proofs.Ytgkdagnpefgjcaa
open Go.RowKit

set_option maxRecDepth 100000 in
set_option maxHeartbeats 8000000 in
theorem lawLists (HE : EdgesOK) (HR : ReachedOK) (HK : BackOK) (A1 A2 : Option Addr) (c1 c2 : Nat) (ent : Int) (text mem : List Int) (w : World) (hT : IntsAt w A1 .u32 text) (hM : IntsAt w A2 .i64 mem) (hR : ∀ i, i < text.length → 0 ≤ nth text i ∧ nth text i < 4294967296) (h01 : A1 = none → c1 = 0) (h02 : A2 = none → c2 = 0) :
    Calls Try.prog 3 #[.agg #[.slice A1 text.length c1, .int .i64 ent, .slice A2 mem.length c2]] w fun e w' => e = .returned (.bool true) ∧ Below w.heap.size w w' := by
  have CW := works_any HE
  obtain ⟨W0, HW⟩ : ∃ W0, Hid (w.alloc (.cells #[.slice A1 text.length c1, .int .i64 ent, .slice A2 mem.length c2] 25) = W0) := ⟨_, rfl⟩
  have HB0 : Hid (Below w.heap.size w W0) := by unfold Hid; rw [← HW.out]; exact lb_alloc (Below.refl _ _) _
  have i0 : W0.cell? ⟨w.heap.size, 0, none⟩ = some (.slice A1 text.length c1) := by rw [← HW.out]; simp [go_sem]
  have i1 : W0.cell? ⟨w.heap.size, 1, none⟩ = some (.int .i64 ent) := by rw [← HW.out]; simp [go_sem]
  have i2 : W0.cell? ⟨w.heap.size, 2, none⟩ = some (.slice A2 mem.length c2) := by rw [← HW.out]; simp [go_sem]
  have HI : Hid (∀ Z, Below W0.heap.size W0 Z → Z.cell? ⟨w.heap.size, 0, none⟩ = some (.slice A1 text.length c1) ∧ Z.cell? ⟨w.heap.size, 1, none⟩ = some (.int .i64 ent) ∧ Z.cell? ⟨w.heap.size, 2, none⟩ = some (.slice A2 mem.length c2)) := fun Z hZ => ⟨lkeep hZ i0, lkeep hZ i1, lkeep hZ i2⟩
  have C0 := much_any A1 A2 c1 c2 ent text mem W0
  by_cases g0 : muchB text mem = true
  · rw [g0] at C0
    go_enter Try.func3, Try.ntmps3
    go_upto_region 1 with fail
    rw [HW.out]
    clear HW
    go_wp2_with (first
        | (go_at_call 5; refine C0.mono ?_; rintro e w1 ⟨rfl, hb1⟩)
        | (go_at_call 6; refine (CW _).mono ?_; rintro e w2 ⟨rfl, hb2⟩))
    go_ret
    exact ⟨rfl, lb_trans HB0.out (lb_trans hb1 hb2)⟩
  have g0 : muchB text mem = false := by simpa using g0
  have l1 : text.length ≤ 600 ∧ mem.length ≤ 16384 := by unfold muchB at g0; simp at g0; omega
  rw [g0] at C0
  obtain ⟨l1, l2⟩ := l1
  clear g0
  have CY := fun Z (hZ : Below W0.heap.size W0 Z) => copyimg_any A1 A2 c1 c2 text mem ent Z (hT.keep (lb_trans HB0.out hZ)) (hM.keep (lb_trans HB0.out hZ)) h01 h02 (by omega) (by omega)
  go_enter Try.func3, Try.ntmps3
  go_upto_region 1 with fail
  rw [HW.out]
  clear HW
  go_upto_region 3 with (go_at_call 5; refine C0.mono ?_; rintro e W1 ⟨rfl, hb1⟩; have HB1 : Hid (Below W0.heap.size W0 W1) := hb1)
  clear i0 i1 i2 hb1 C0
  by_cases hE : (checkI text mem.length ent).1 = 0
  · have hMay := check_mayI hE
    have CC := fun Z (hZ : Below W0.heap.size W0 Z) => refcheck_any A1 A2 c1 mem.length c2 ent text Z (hT.keep (lb_trans HB0.out hZ)) hR (by omega) (by omega)
    have CE := fun D1 D2 m1 m2 Z (hz : IntsAt Z D1 .u32 text) => HE D1 D2 m1 mem.length m2 ent text Z hz hR (by omega) (by omega)
    have CR := fun D1 D2 m1 m2 Z (hz : IntsAt Z D1 .u32 text) => HR D1 D2 m1 mem.length m2 ent text Z hz hR (by omega) (by omega)
    have CX := fun Z (hZ : Below W0.heap.size W0 Z) => refedges_any A1 A2 c1 mem.length c2 ent text Z (hT.keep (lb_trans HB0.out hZ)) hR hMay
    have CZ := fun Z (hZ : Below W0.heap.size W0 Z) => refreached_any A1 A2 c1 mem.length c2 ent text Z (hT.keep (lb_trans HB0.out hZ)) hR hMay
    have hLt := blk_len_le text ent
    have HEr : Hid (∀ i, i < (edgT text ent (blkL text ent).length).length → (rowZ (edgT text ent (blkL text ent).length) i).length ≤ 65536) := fun i hi => by
      rw [edgT_len] at hi
      rw [edg_row hi]
      have := plcT_len (edgR text ent i) (blkL text ent).length
      omega
    have HBb := back_back text ent
    have HEl := edgT_len text ent (blkL text ent).length
    have HBl := backT_len (edgT text ent (blkL text ent).length) (blkL text ent).length
    have HBr : Hid (∀ i, i < (backT (edgT text ent (blkL text ent).length) (blkL text ent).length).length → (rowZ (backT (edgT text ent (blkL text ent).length) (blkL text ent).length) i).length ≤ 65536) := fun i hi => by
      rw [backT_len] at hi
      unfold backT
      rw [rowZ_map hi, edgT_len]
      have := plcT_len (backR (edgT text ent (blkL text ent).length) i) (blkL text ent).length
      omega
    rw [show outE text mem.length ent = edgT text ent (blkL text ent).length from if_pos hE, hE] at CE
    rw [show outN text mem.length ent = (blkL text ent).length from if_pos hE, hE, show outR text ent = rchF (edgT text ent (blkL text ent).length) (ofB (blkL text ent) ent) from rfl] at CR
    rw [hE] at CC
    clear hE hMay hR hT hM h01 h02
    generalize rchF (edgT text ent (blkL text ent).length) (ofB (blkL text ent) ent) = F at *
    generalize edgT text ent (blkL text ent).length = EE at *
    generalize (blkL text ent).length = n at *
    generalize (checkI text mem.length ent).2 = E2 at *
    obtain ⟨BB, hBB⟩ : ∃ BB, backT EE n = BB := ⟨_, rfl⟩
    rw [hBB] at HBb HBl HBr
    have CB := fun D m Z (hz : IntsZ Z D EE) => HK D m EE Z hz (by omega) HEr.out
    have CD := fun D m Z (hz : IntsZ Z D BB) => HK D m BB Z hz (by omega) HBr.out
    rw [HEl, hBB] at CB
    rw [HBl, HBb] at CD
    have CB : ∀ (D : Option Addr) (m : Nat) (Z : World), IntsZ Z D EE → Calls Try.prog 12 #[.slice D EE.length m] Z (ZR BB Z) := fun D m Z hz => by rw [HEl]; exact CB D m Z hz
    have CD : ∀ (D : Option Addr) (m : Nat) (Z : World), IntsZ Z D BB → Calls Try.prog 12 #[.slice D BB.length m] Z (ZR EE Z) := fun D m Z hz => by rw [HBl]; exact CD D m Z hz
    have hEE : EE.length ≤ 65536 := by omega
    have hn : n ≤ 65536 := by omega
    clear HBb hBB HBl HEl
    obtain ⟨i0, i1, i2⟩ := HI.out W1 HB1.out
    go_wp2_with fail
    refine (CC W1 HB1.out).mono ?_
    rintro e W2 ⟨rfl, hb⟩
    clear i0 i1 i2
    have HB2 : Hid (Below W0.heap.size W0 W2) := lb_trans HB1.out hb
    clear hb HB1
    obtain ⟨i0, i1, i2⟩ := HI.out W2 HB2.out
    go_wp2_with fail
    refine (CY W2 HB2.out).mono ?_
    rintro e W3 ⟨B1, B2, k1, k2, rfl, hrows, hb⟩
    clear i0 i1 i2
    have HB3 : Hid (Below W0.heap.size W0 W3) := lb_trans HB2.out hb
    have T3 : Hid (IntsAt W3 B1 .u32 text) := row_ints hrows.r1
    clear hrows
    clear hb HB2
    obtain ⟨i0, i1, i2⟩ := HI.out W3 HB3.out
    go_wp2_with fail
    refine (CE _ _ _ _ W3 T3.out).mono ?_
    rintro e W4 ⟨Al, cl, rfl, hz, hb⟩
    clear i0 i1 i2
    have HB4 : Hid (Below W0.heap.size W0 W4) := lb_trans HB3.out hb
    have Zl4 : Hid (IntsZ W4 Al EE) := hz
    clear hz T3
    clear hb HB3
    obtain ⟨i0, i1, i2⟩ := HI.out W4 HB4.out
    go_wp2_with fail
    refine (CY W4 HB4.out).mono ?_
    rintro e W5 ⟨D1, D2, m1, m2, rfl, hrows, hb⟩
    clear i0 i1 i2
    have HB5 : Hid (Below W0.heap.size W0 W5) := lb_trans HB4.out hb
    have T5 : Hid (IntsAt W5 D1 .u32 text) := row_ints hrows.r1
    clear hrows
    have Zl5 : Hid (IntsZ W5 Al EE) := Zl4.out.keep hb
    clear Zl4
    clear hb HB4
    obtain ⟨i0, i1, i2⟩ := HI.out W5 HB5.out
    go_wp2_with fail
    refine (CR _ _ _ _ W5 T5.out).mono ?_
    rintro e W6 ⟨Ar, cr, rfl, hz, hb⟩
    clear i0 i1 i2
    have HB6 : Hid (Below W0.heap.size W0 W6) := lb_trans HB5.out hb
    have Br6 : Hid (BolsAt W6 Ar n F) := hz
    clear hz T5
    have Zl6 : Hid (IntsZ W6 Al EE) := Zl5.out.keep hb
    clear Zl5
    clear hb HB5
    obtain ⟨i0, i1, i2⟩ := HI.out W6 HB6.out
    go_wp2_with fail
    refine (CX W6 HB6.out).mono ?_
    rintro e W7 ⟨Aw, cw, vs, rfl, hz, hb⟩
    clear i0 i1 i2
    have HB7 : Hid (Below W0.heap.size W0 W7) := lb_trans HB6.out hb
    have Zw7 : Hid (IntsZ W7 Aw EE) := hz.ints
    clear hz
    have Zl7 : Hid (IntsZ W7 Al EE) := Zl6.out.keep hb
    clear Zl6
    have Br7 : Hid (BolsAt W7 Ar n F) := Br6.out.keep hb
    clear Br6
    clear hb HB6
    obtain ⟨i0, i1, i2⟩ := HI.out W7 HB7.out
    go_wp2_with fail
    refine (CB Al cl W7 Zl7.out).mono ?_
    rintro e W8 ⟨Ab, cb, rfl, hz, hb⟩
    clear i0 i1 i2
    have HB8 : Hid (Below W0.heap.size W0 W8) := lb_trans HB7.out hb
    have Zb8 : Hid (IntsZ W8 Ab BB) := hz
    clear hz
    have Zl8 : Hid (IntsZ W8 Al EE) := Zl7.out.keep hb
    clear Zl7
    have Br8 : Hid (BolsAt W8 Ar n F) := Br7.out.keep hb
    clear Br7
    have Zw8 : Hid (IntsZ W8 Aw EE) := Zw7.out.keep hb
    clear Zw7
    clear hb HB7
    obtain ⟨i0, i1, i2⟩ := HI.out W8 HB8.out
    go_wp2_with fail
    refine (eq_same Al Aw cl cw EE W8 Zl8.out Zw8.out (by omega) HEr.out).mono ?_
    rintro e W9 ⟨rfl, hb⟩
    clear i0 i1 i2
    have HB9 : Hid (Below W0.heap.size W0 W9) := lb_trans HB8.out hb
    have Br9 : Hid (BolsAt W9 Ar n F) := Br8.out.keep hb
    clear Br8
    have Zw9 : Hid (IntsZ W9 Aw EE) := Zw8.out.keep hb
    clear Zw8
    have Zb9 : Hid (IntsZ W9 Ab BB) := Zb8.out.keep hb
    clear Zb8
    clear hb HB8
    obtain ⟨i0, i1, i2⟩ := HI.out W9 HB9.out
    go_wp2_with fail
    refine (CZ W9 HB9.out).mono ?_
    rintro e W10 ⟨g, rfl, hz, hb⟩
    clear i0 i1 i2
    have HB10 : Hid (Below W0.heap.size W0 W10) := lb_trans HB9.out hb
    have Bs10 : Hid (BolsAt W10 (some ⟨g, 0, none⟩) n F) := hz.bols
    clear hz
    have Br10 : Hid (BolsAt W10 Ar n F) := Br9.out.keep hb
    clear Br9
    have Zw10 : Hid (IntsZ W10 Aw EE) := Zw9.out.keep hb
    clear Zw9
    have Zb10 : Hid (IntsZ W10 Ab BB) := Zb9.out.keep hb
    clear Zb9
    clear hb HB9
    obtain ⟨i0, i1, i2⟩ := HI.out W10 HB10.out
    go_wp2_with fail
    refine (eqbools_same Ar (some ⟨g, 0, none⟩) cr n n F W10 Br10.out Bs10.out (by omega)).mono ?_
    rintro e W11 ⟨rfl, hb⟩
    clear i0 i1 i2
    have HB11 : Hid (Below W0.heap.size W0 W11) := lb_trans HB10.out hb
    have Zw11 : Hid (IntsZ W11 Aw EE) := Zw10.out.keep hb
    clear Zw10
    have Zb11 : Hid (IntsZ W11 Ab BB) := Zb10.out.keep hb
    clear Zb10
    clear hb HB10
    obtain ⟨i0, i1, i2⟩ := HI.out W11 HB11.out
    go_wp2_with fail
    refine (CD Ab cb W11 Zb11.out).mono ?_
    rintro e W12 ⟨Ad, cd, rfl, hz, hb⟩
    clear i0 i1 i2
    have HB12 : Hid (Below W0.heap.size W0 W12) := lb_trans HB11.out hb
    have Zd12 : Hid (IntsZ W12 Ad EE) := hz
    clear hz
    have Zw12 : Hid (IntsZ W12 Aw EE) := Zw11.out.keep hb
    clear Zw11
    clear hb HB11
    obtain ⟨i0, i1, i2⟩ := HI.out W12 HB12.out
    go_wp2_with fail
    refine (eq_same Ad Aw cd cw EE W12 Zd12.out Zw12.out (by omega) HEr.out).mono ?_
    rintro e W13 ⟨rfl, hb⟩
    clear i0 i1 i2
    have HB13 : Hid (Below W0.heap.size W0 W13) := lb_trans HB12.out hb
    clear hb HB12
    go_wp2_with (go_at_call 6; refine (CW _).mono ?_; rintro e W14 ⟨rfl, hb⟩)
    go_ret
    exact ⟨rfl, lb_trans HB0.out (lb_trans HB13.out hb)⟩
  · have CC := fun Z (hZ : Below W0.heap.size W0 Z) => refcheck_any A1 A2 c1 mem.length c2 ent text Z (hT.keep (lb_trans HB0.out hZ)) hR (by omega) (by omega)
    have CE := fun D1 D2 m1 m2 Z (hz : IntsAt Z D1 .u32 text) => HE D1 D2 m1 mem.length m2 ent text Z hz hR (by omega) (by omega)
    have CR := fun D1 D2 m1 m2 Z (hz : IntsAt Z D1 .u32 text) => HR D1 D2 m1 mem.length m2 ent text Z hz hR (by omega) (by omega)
    rw [show outE text mem.length ent = [] from if_neg hE] at CE
    rw [show outN text mem.length ent = 0 from if_neg hE] at CR
    have hne : ((checkI text mem.length ent).1 == 0) = false := by simpa using hE
    have hne2 : ((checkI text mem.length ent).1 != 0) = true := by simpa using hE
    clear hE hR hT hM h01 h02
    generalize (checkI text mem.length ent).2 = E2 at *
    generalize (checkI text mem.length ent).1 = E at *
    obtain ⟨i0, i1, i2⟩ := HI.out W1 HB1.out
    go_wp2_with fail
    refine (CC W1 HB1.out).mono ?_
    rintro e W2 ⟨rfl, hb⟩
    clear i0 i1 i2
    have HB2 : Hid (Below W0.heap.size W0 W2) := lb_trans HB1.out hb
    clear hb HB1
    obtain ⟨i0, i1, i2⟩ := HI.out W2 HB2.out
    go_wp2_with fail
    refine (CY W2 HB2.out).mono ?_
    rintro e W3 ⟨B1, B2, k1, k2, rfl, hrows, hb⟩
    clear i0 i1 i2
    have HB3 : Hid (Below W0.heap.size W0 W3) := lb_trans HB2.out hb
    have T3 : Hid (IntsAt W3 B1 .u32 text) := row_ints hrows.r1
    clear hrows
    clear hb HB2
    obtain ⟨i0, i1, i2⟩ := HI.out W3 HB3.out
    go_wp2_with fail
    refine (CE _ _ _ _ W3 T3.out).mono ?_
    rintro e W4 ⟨Al, cl, rfl, hz, hb⟩
    clear i0 i1 i2
    have HB4 : Hid (Below W0.heap.size W0 W4) := lb_trans HB3.out hb
    clear hz T3
    clear hb HB3
    obtain ⟨i0, i1, i2⟩ := HI.out W4 HB4.out
    go_wp2_with fail
    refine (CY W4 HB4.out).mono ?_
    rintro e W5 ⟨D1, D2, m1, m2, rfl, hrows, hb⟩
    clear i0 i1 i2
    have HB5 : Hid (Below W0.heap.size W0 W5) := lb_trans HB4.out hb
    have T5 : Hid (IntsAt W5 D1 .u32 text) := row_ints hrows.r1
    clear hrows
    clear hb HB4
    obtain ⟨i0, i1, i2⟩ := HI.out W5 HB5.out
    go_wp2_with fail
    refine (CR _ _ _ _ W5 T5.out).mono ?_
    rintro e W6 ⟨Ar, cr, rfl, hz, hb⟩
    clear i0 i1 i2
    have HB6 : Hid (Below W0.heap.size W0 W6) := lb_trans HB5.out hb
    clear hz T5
    clear hb HB5
    go_wp2_with (go_at_call 6; refine (CW _).mono ?_; rintro e W14 ⟨rfl, hb⟩)
    go_ret
    exact ⟨rfl, lb_trans HB0.out (lb_trans HB6.out hb)⟩


end Go.Proofs.Ytgkdagnpefgjcaa

namespace Go.Proofs.Ytgkdagnpefgjcaa
open Go.RowKit

/-- What the list i has, when k lists and j numbers of the next one were gone through. -/
def curB (L : List (List Int)) (k j i : Nat) : List Int := plcT (backR L i) k ++ (if (i : Int) ∈ (rowZ L k).take j then [(k : Int)] else [])
def bst (L : List (List Int)) (k j : Nat) : List (List Int) := (List.range L.length).map (curB L k j)
theorem bst_len (L : List (List Int)) (k j : Nat) : (bst L k j).length = L.length := by simp [bst]
theorem bst_row {L : List (List Int)} {k j i : Nat} (h : i < L.length) : rowZ (bst L k j) i = curB L k j i := rowZ_map h
theorem take_next {l : List Int} {j : Nat} (h : j < l.length) (x : Int) : x ∈ l.take (j + 1) ↔ x ∈ l.take j ∨ x = nth l j := by
  rw [List.take_succ_eq_append_getElem h, List.mem_append, List.mem_singleton]
  have : nth l j = l[j] := by simp [nth, List.getD, h]
  rw [this]
theorem curB_same {L : List (List Int)} {k j i : Nat} (hj : j < (rowZ L k).length) (h : (i : Int) ≠ nth (rowZ L k) j ∨ nth (rowZ L k) j ∈ (rowZ L k).take j) : curB L k (j + 1) i = curB L k j i := by
  unfold curB
  by_cases h1 : (i : Int) ∈ (rowZ L k).take j
  · rw [if_pos h1, if_pos ((take_next hj _).2 (.inl h1))]
  · rw [if_neg h1, if_neg]
    intro h2
    rcases (take_next hj _).1 h2 with h2 | h2
    · exact h1 h2
    · rcases h with h | h
      · exact h h2
      · rw [h2] at h1; exact h1 h
theorem bst_skip {L : List (List Int)} {k j : Nat} (hj : j < (rowZ L k).length) (h : nth (rowZ L k) j < 0 ∨ (L.length : Int) ≤ nth (rowZ L k) j ∨ nth (rowZ L k) j ∈ (rowZ L k).take j) : bst L k (j + 1) = bst L k j := by
  unfold bst
  refine List.map_congr_left fun i hi => ?_
  have hi : i < L.length := by simpa using hi
  refine curB_same hj ?_
  rcases h with h | h | h
  · exact .inl (by omega)
  · exact .inl (by omega)
  · exact .inr h
theorem bst_add {L : List (List Int)} {k j : Nat} (hj : j < (rowZ L k).length) {i : Nat} (hi : i < L.length) (h0 : nth (rowZ L k) j = (i : Int)) (h1 : (i : Int) ∉ (rowZ L k).take j) : bst L k (j + 1) = (bst L k j).set i (rowZ (bst L k j) i ++ [(k : Int)]) := by
  apply List.ext_getElem?
  intro t
  rw [List.getElem?_set, bst_len]
  by_cases ht : t < L.length
  · by_cases e : i = t
    · subst e
      rw [if_pos rfl, if_pos hi, bst_row hi]
      have : (bst L k (j + 1))[i]? = some (curB L k (j + 1) i) := by simp [bst, hi]
      rw [this]
      congr 1
      unfold curB
      rw [if_neg h1, if_pos ((take_next hj _).2 (.inr h0.symm)), List.append_nil]
    · rw [if_neg e]
      have a : (bst L k (j + 1))[t]? = some (curB L k (j + 1) t) := by simp [bst, ht]
      have b : (bst L k j)[t]? = some (curB L k j t) := by simp [bst, ht]
      rw [a, b, curB_same hj (.inl (by rw [h0]; omega))]
  · rw [List.getElem?_eq_none (by rw [bst_len]; omega), if_neg (by omega), List.getElem?_eq_none (by rw [bst_len]; omega)]
theorem bst_next (L : List (List Int)) (k : Nat) : bst L k (rowZ L k).length = bst L (k + 1) 0 := by
  unfold bst
  refine List.map_congr_left fun i hi => ?_
  unfold curB
  rw [List.take_length, List.take_zero, if_neg (List.not_mem_nil), List.append_nil]
  by_cases h : (i : Int) ∈ rowZ L k
  · rw [if_pos h, plcT_yes]
    unfold backR hasZ
    rw [decide_eq_true_eq]
    simpa using h
  · rw [if_neg h, List.append_nil, plcT_no]
    unfold backR hasZ
    rw [decide_eq_false_iff_not]
    simpa using h
theorem bst_end (L : List (List Int)) : bst L L.length 0 = backT L L.length := by
  unfold bst backT
  refine List.map_congr_left fun i hi => ?_
  unfold curB
  rw [List.take_zero, if_neg (List.not_mem_nil), List.append_nil]
theorem bst_zero (L : List (List Int)) : bst L 0 0 = List.replicate L.length [] := by
  apply List.ext_getElem?
  intro t
  by_cases ht : t < L.length
  · have a : (bst L 0 0)[t]? = some (curB L 0 0 t) := by simp [bst, ht]
    rw [a, List.getElem?_replicate, if_pos ht]
    first | rfl | (unfold curB; rw [List.take_zero, if_neg (List.not_mem_nil), List.append_nil, plcT_zero])
  · rw [List.getElem?_eq_none (by rw [bst_len]; omega), List.getElem?_replicate, if_neg ht]
/-- Does a list end in a number? -/
def endZ (l : List Int) (x : Int) : Bool := decide (0 < l.length ∧ nth l (l.length - 1) = x)
theorem curB_ends (L : List (List Int)) (k j i : Nat) : endZ (curB L k j i) (k : Int) = decide ((i : Int) ∈ (rowZ L k).take j) := by
  unfold endZ
  by_cases h : (i : Int) ∈ (rowZ L k).take j
  · rw [decide_eq_true h, decide_eq_true_eq]
    unfold curB
    rw [if_pos h, List.length_append]
    refine ⟨by simp, ?_⟩
    unfold nth
    simp [List.getD]
  · rw [decide_eq_false h, decide_eq_false_iff_not]
    unfold curB
    rw [if_neg h, List.append_nil]
    rintro ⟨h1, h2⟩
    have h3 := plcT_mem.1 (nth_mem (show (plcT (backR L i) k).length - 1 < (plcT (backR L i) k).length by omega))
    omega
theorem curB_len (L : List (List Int)) (k j i : Nat) : (curB L k j i).length ≤ k + 1 := by
  unfold curB
  have := plcT_len (backR L i) k
  rw [List.length_append]
  split <;> simp <;> omega
theorem rowZ_set {M : List (List Int)} {i t : Nat} {l : List Int} (ht : t < M.length) : rowZ (M.set i l) t = if i = t then l else rowZ M t := by
  unfold rowZ
  rw [List.getD_eq_getElem?_getD, List.getElem?_set, List.getD_eq_getElem?_getD]
  by_cases e : i = t
  · rw [if_pos e, if_pos e, if_pos (by omega)]; rfl
  · rw [if_neg e, if_neg e]

end Go.Proofs.Ytgkdagnpefgjcaa
