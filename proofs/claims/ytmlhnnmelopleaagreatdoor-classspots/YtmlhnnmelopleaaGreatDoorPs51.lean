/-
  The document's Spot.
-/
import Derived.Test.YtmlhnnmelopleaaGreatDoorProg
import Derived.WalkKit
import Derived.WalkSpells
import Derived.WalkLawsBesides
import Derived.RowKit3
import Derived.Below
import Derived.Deep.QuietTactic
import Derived.BigQuiet
import Derived.WalkSmall
import Derived.Laws.Rows
import Derived.Test.YtmlhnnmelopleaaGreatDoorPs49
import Derived.Test.YtmlhnnmelopleaaGreatDoorPs50
import Derived.Test.YtmlhnnmelopleaaGreatDoorPs13
import Derived.Test.YtmlhnnmelopleaaGreatDoorPs17
import Derived.Test.YtmlhnnmelopleaaGreatDoorPs10
namespace Go.Proofs.YtmlhnnmelopleaaGreatDoor
open Go.RowKit

def LkV (a1 : Addr) (A2 : Option Addr) (c1 ml c2 : Nat) (ent : Int) (text : List Int) (Ab : Option Addr) (L cb : Nat) (ah : Addr) : Value := .agg #[.slice (some a1) text.length c1, .int .i64 ent, .slice A2 ml c2, .slice Ab L cb, .slice (some ah) text.length text.length]
def RspP (text : List Int) (ent : Int) (H : Int → Nat) (n p : Nat) (w : World) (e : Ending) (w' : World) : Prop := e = .returned (.tuple #[.agg #[.int .i64 (resS (p : Int) (spotN text ent H n p)).1, .int .i8 (resS (p : Int) (spotN text ent H n p)).2.1, .int .i8 (resS (p : Int) (spotN text ent H n p)).2.2], .bool (okS (spotN text ent H n p))]) ∧ Below w.heap.size w w'
theorem rsp_mk {text : List Int} {ent : Int} {H : Int → Nat} {n p : Nat} {s1 s2 : Int} (hs : spotN text ent H n p = (s1, s2)) {w w' : World} (hb : Below w.heap.size w w') (x y z : Int) (b : Bool) (h1 : resS (p : Int) (s1, s2) = (x, y, z)) (h2 : okS (s1, s2) = b) : RspP text ent H n p w (.returned (.tuple #[.agg #[.int .i64 x, .int .i8 y, .int .i8 z], .bool b])) w' := by
  unfold RspP
  rw [hs, h1, h2]
  exact ⟨rfl, hb⟩
theorem set3 {w W : World} {a b c : Value} (h : Below w.heap.size w W) : Below w.heap.size w (((W.setCell ⟨w.heap.size + 1, 0, none⟩ a).setCell ⟨w.heap.size + 1, 1, none⟩ b).setCell ⟨w.heap.size + 1, 2, none⟩ c) :=
  ((h.setCell (p := ⟨w.heap.size + 1, 0, none⟩) (Nat.le_succ _) _).setCell (p := ⟨w.heap.size + 1, 1, none⟩) (Nat.le_succ _) _).setCell (p := ⟨w.heap.size + 1, 2, none⟩) (Nat.le_succ _) _
theorem bitZ {h : Nat} (hh : h < 65536) (r : Nat) : (bits .and .u16 ((h : Int) / 2 ^ r) 1 == 0) = !h.testBit r := by
  have e : ((h : Int) / 2 ^ r) = ((h / 2 ^ r : Nat) : Int) := by push_cast; rfl
  have hb : h / 2 ^ r < 65536 := Nat.lt_of_le_of_lt (Nat.div_le_self _ _) hh
  rw [e, Nat.testBit_eq_decide_div_mod_eq]
  generalize h / 2 ^ r = x at hb
  rw [u16_and _ _ (by omega) (by omega) (by omega) (by omega), Bool.eq_iff_iff, beq_iff_eq, Bool.not_eq_true', decide_eq_false_iff_not]
  simp only [Int.toNat_natCast, Int.toNat_one, Nat.and_one_is_mod]
  omega
theorem bitZ15 {h : Nat} (hh : h < 65536) : (bits .and .u16 ((h : Int) / 32768) 1 == 0) = !h.testBit 15 := bitZ hh 15
set_option maxRecDepth 100000 in
set_option maxHeartbeats 16000000 in
theorem spotr_any (a1 : Addr) (A2 Ab : Option Addr) (c1 ml c2 cb : Nat) (ent : Int) (text : List Int) (ah : Addr) (H : Int → Nat) (n m p : Nat) (w : World) (hX : LkAt w a1 Ab ah ent text H) (hR : ∀ i, i < text.length → 0 ≤ nth text i ∧ nth text i < 4294967296) (hl : text.length ≤ 16384) (hc : text.length ≤ c1) (hnm : n = m + 1) (hp : p + n ≤ text.length) :
    Calls Tryz.prog 22 #[LkV a1 A2 c1 ml c2 ent text Ab (blkL text ent).length cb ah, .int .i64 (n : Int), .int .i64 (p : Int)] w (RspP text ent H n p w) := by
  obtain ⟨k, hk, ek⟩ := blk_of_place (ent := ent) (p := p) (by omega : p < text.length)
  have hbl := blk_len_le text ent
  have hn0 : 0 < n := by omega
  obtain ⟨X, HX⟩ : ∃ X, Hid ((w.alloc (.cells #[.slice (some a1) text.length c1, .int .i64 ent, .slice A2 ml c2, .slice Ab (blkL text ent).length cb, .slice (some ah) text.length text.length] 47)).alloc (.cells #[.int .i64 0, .int .i8 0, .int .i8 0] 54) = X) := ⟨_, rfl⟩
  have HB : Hid (Below w.heap.size w X) := by unfold Hid; rw [← HX.out]; exact lb_alloc (lb_alloc (Below.refl _ _) _) _
  have i0 : X.cell? ⟨w.heap.size, 0, none⟩ = some (.slice (some a1) text.length c1) := by rw [← HX.out]; simp [go_sem]
  have i3 : X.cell? ⟨w.heap.size, 3, none⟩ = some (.slice Ab (blkL text ent).length cb) := by rw [← HX.out]; simp [go_sem]
  have i4 : X.cell? ⟨w.heap.size, 4, none⟩ = some (.slice (some ah) text.length text.length) := by rw [← HX.out]; simp [go_sem]
  have x0 : X.cell? ⟨w.heap.size + 1, 0, none⟩ = some (.int .i64 0) := by rw [← HX.out]; simp [go_sem]
  have x1 : X.cell? ⟨w.heap.size + 1, 1, none⟩ = some (.int .i8 0) := by rw [← HX.out]; simp [go_sem]
  have x2 : X.cell? ⟨w.heap.size + 1, 2, none⟩ = some (.int .i8 0) := by rw [← HX.out]; simp [go_sem]
  have f0 : X.frozen? ⟨w.heap.size + 1, 0, none⟩ = false := by rw [← HX.out]; simp [go_sem]
  have f1 : X.frozen? ⟨w.heap.size + 1, 1, none⟩ = false := by rw [← HX.out]; simp [go_sem]
  have f2 : X.frozen? ⟨w.heap.size + 1, 2, none⟩ = false := by rw [← HX.out]; simp [go_sem]
  have hX1 := hX.keep HB.out
  have C1 := refof_any Ab cb (blkL text ent) (p : Int) X hX1.blk (by omega)
  rw [ek] at C1
  obtain ⟨b, eb, -, rb⟩ := hX1.blk k hk
  subst eb
  have rb : X.cell? ⟨(b.add (k * 2)).block, (b.add (k * 2)).off + 1, none⟩ = some (.int .i64 (rSym (blkL text ent) k)) := rb
  have hz0 : 0 ≤ rSym (blkL text ent) k := by have := blk_in (ent := ent) hk; omega
  have hz1 : rSym (blkL text ent) k ≤ 16384 := by have := blk_in (ent := ent) hk; omega
  have HI : Hid (inB text ent n p = decide ((p : Int) + n ≤ rSym (blkL text ent) k)) := by
    unfold Hid inB
    rw [ek]; rfl
  have hcr := cutN_run a1 text.length c1 p n hn0 hp hc
  have hlen := cutN_len hp
  have C2 := fun wx (hb : Below w.heap.size w wx) => refkind_any (some (a1.add p)) (c1 - p) (cutN text p n) wx (ints_cut (hX.txt.keep hb) hp) (range_cut hR hp) (by rw [hlen]; omega)
  have C3 := fun wx (hb : Below w.heap.size w wx) => refall_any (some (a1.add p)) (c1 - p) (cutN text p n) wx (ints_cut (hX.txt.keep hb) hp) (range_cut hR hp) (by rw [hlen]; omega)
  have C4 := fun (r : Nat) (hr : r < 15) wx (hb : Below w.heap.size w wx) => named_any (some (a1.add p)) (c1 - p) (cutN text p n) r hr wx (ints_cut (hX.txt.keep hb) hp) (range_cut hR hp) (by rw [hlen]; omega)
  unfold AllP at C3
  rw [hlen] at C2 C3 C4
  have HXl : Hid (LkAt w a1 (some b) ah ent text H) := hX
  have Hnm : Hid (n = m + 1) := hnm
  have hk' : (k : Int) < ((blkL text ent).length : Int) := by omega
  have hp4 : (p : Int) ≤ 16384 := by omega
  have hn4 : (n : Int) ≤ 16384 := by omega
  have HAN : Hid (∀ r, hasN (nmW (cutN text p n) r) n = true → (allR (cutN text p n) n ||| allW (cutN text p n) n).testBit r = true) := fun r h => by
    obtain ⟨i, hi, e⟩ := hasN_of h
    exact all_named _ n i r hi e
  have HK3 : Hid (kindN (cutN text p n) = 0 ∨ kindN (cutN text p n) = 1 ∨ kindN (cutN text p n) = 2 ∨ kindN (cutN text p n) = 3) := kind_in _
  clear hX hX1 hR hnm ek hlen hbl
  generalize hzz : rSym (blkL text ent) k = z at *
  clear hzz
  have HL : Hid ((blkL text ent).length = (blkL text ent).length) := rfl
  generalize (blkL text ent).length = L at *
  clear HL
  unfold LkV
  go_enter Tryz.func22, Tryz.ntmps22
  go_upto_region 1 with fail
  rw [HX.out]
  clear HX
  go_upto_region 3 with (go_at_call 42; refine C1.mono ?_; rintro e w1 ⟨rfl, hb1⟩; have HB1 : Hid (Below w.heap.size w w1) := lb_trans HB.out hb1; have j0 := lkeep hb1 i0; have j3 := lkeep hb1 i3; have j4 := lkeep hb1 i4; have rb1 := lkeep hb1 rb; have y0 := lkeep hb1 x0; have y1 := lkeep hb1 x1; have y2 := lkeep hb1 x2; have yf0 := fro_keep hb1 x0 f0; have yf1 := fro_keep hb1 x1 f1; have yf2 := fro_keep hb1 x2 f2; clear hb1)
  clear i0 i3 i4 x0 x1 x2 f0 f1 f2 rb C1 HB
  have C2 := C2 w1 HB1.out
  go_upto_region 4 with (go_at_call 9; refine C2.mono ?_; rintro e w2 ⟨rfl, hb2⟩; have HB2 : Hid (Below w.heap.size w w2) := lb_trans HB1.out hb2; have k0 := lkeep hb2 j0; have k3 := lkeep hb2 j3; have k4 := lkeep hb2 j4; have rb2 := lkeep hb2 rb1; have z0 := lkeep hb2 y0; have z1 := lkeep hb2 y1; have z2 := lkeep hb2 y2; have zf0 := fro_keep hb2 y0 yf0; have zf1 := fro_keep hb2 y1 yf1; have zf2 := fro_keep hb2 y2 yf2; clear hb2)
  clear j0 j3 j4 rb1 y0 y1 y2 yf0 yf1 yf2 C2
  have hB2 := HB2.out
  by_cases hin : (p : Int) + (n : Int) ≤ z
  · have HIn : Hid (inB text ent n p = true) := by rw [Hid, HI.out, decide_eq_true_eq]; exact hin
    have hd : decide (z < (p : Int) + (n : Int)) = false := decide_eq_false (by omega)
    clear HI hin
    rcases HK3.out with e0 | e0 | e0 | e0
    · have HS : Hid (spotN text ent H n p = (0, 0)) := by
        unfold Hid spotN
        rw [if_pos (.inr e0)]
      rw [e0]
      clear e0 HK3
      go_wp2
      refine bodyPost_ret (v := .tuple #[.agg #[.int .i64 0, .int .i8 0, .int .i8 0], .bool false]) (by simp [results, Tryz.results22, go_sem, z0, z1, z2]) rfl (rsp_mk HS.out (set3 hB2) _ _ _ _ rfl rfl)
    · have HS : Hid (spotN text ent H n p = (1, 0)) := by
        unfold Hid spotN
        rw [HIn.out, e0]; simp
      rw [e0]
      clear e0 HK3
      go_wp2
      refine bodyPost_ret (v := .tuple #[.agg #[.int .i64 (p : Int), .int .i8 1, .int .i8 0], .bool true]) (by simp [results, Tryz.results22, go_sem, z0, z1, z2]) rfl (rsp_mk HS.out (set3 hB2) _ _ _ _ rfl rfl)
    · have HS : Hid (spotN text ent H n p = (2, 0)) := by
        unfold Hid spotN
        rw [HIn.out, e0]; simp
      rw [e0]
      clear e0 HK3
      go_wp2
      refine bodyPost_ret (v := .tuple #[.agg #[.int .i64 (p : Int), .int .i8 2, .int .i8 0], .bool true]) (by simp [results, Tryz.results22, go_sem, z0, z1, z2]) rfl (rsp_mk HS.out (set3 hB2) _ _ _ _ rfl rfl)
    · have HS0 : Hid (spotN text ent H n p = if (H ((p + n - 1 : Nat) : Int)).testBit 15 = false then (3, 0) else if 3 < n ∧ lestN (busyN text H n p) < 15 then (4, (lestN (busyN text H n p) : Int)) else (0, 0)) := by
        unfold Hid spotN
        rw [HIn.out, e0]; simp
      rw [e0]
      clear e0 HK3
      go_upto_region 8 with fail
      obtain ⟨u, hu⟩ : ∃ u, Hid (p + n - 1 = u) := ⟨_, rfl⟩
      have hu1 : (p : Int) + (n : Int) = (u : Int) + 1 := by have := hu.out; omega
      have hu2 : u < text.length := by have := hu.out; omega
      have hu3 : (u : Int) < (text.length : Int) := by omega
      obtain ⟨x, ex, qh⟩ := (HXl.out.beh.keep hB2) u (by rw [setL_len]; exact hu2)
      obtain rfl := Option.some.inj ex
      rw [setL_nth hu2] at qh
      have h16 := HXl.out.bhi.lt hu2
      have HBz : Hid (busyN text H n p = H (u : Int) ||| allR (cutN text p n) n ||| allW (cutN text p n) n) := by
        unfold Hid busyN
        rw [hu.out]
      rw [hu.out, HBz.out] at HS0
      clear HBz hd
      generalize H (u : Int) = h at *
      have hb15 := bitZ15 h16
      go_upto_region 9 with fail
      cases hbit : h.testBit 15 with
      | false =>
        have HS : Hid (spotN text ent H n p = (3, 0)) := by
          unfold Hid
          rw [HS0.out, if_pos hbit]
        rw [hbit] at hb15
        clear hbit HS0 HAN C3 C4
        go_wp2
        refine bodyPost_ret (v := .tuple #[.agg #[.int .i64 (p : Int), .int .i8 3, .int .i8 0], .bool true]) (by simp [results, Tryz.results22, go_sem, z0, z1, z2]) rfl (rsp_mk HS.out (set3 hB2) _ _ _ _ rfl rfl)
      | true =>
        have HS1 : Hid (spotN text ent H n p = if 3 < n ∧ lestN (h ||| allR (cutN text p n) n ||| allW (cutN text p n) n) < 15 then (4, (lestN (h ||| allR (cutN text p n) n ||| allW (cutN text p n) n) : Int)) else (0, 0)) := by
          unfold Hid
          rw [HS0.out, if_neg (by rw [hbit]; simp)]
        have HAN1 : Hid (∀ r, hasN (nmW (cutN text p n) r) n = true → (h ||| allR (cutN text p n) n ||| allW (cutN text p n) n).testBit r = true) := fun r hh => by
          have := HAN.out r hh
          rw [Nat.or_assoc, Nat.testBit_or, this, Bool.or_true]
        rw [hbit] at hb15
        have C3 := C3 w2 hB2
        have o1 := orI h16 (allR_lt (cutN text p n) n)
        have o2 := orI (orN_lt h16 (allR_lt (cutN text p n) n)) (allW_lt (cutN text p n) n)
        have hzlt : h ||| allR (cutN text p n) n ||| allW (cutN text p n) n < 65536 := orN_lt (orN_lt h16 (allR_lt (cutN text p n) n)) (allW_lt (cutN text p n) n)
        clear hbit HS0 HAN
        have C4h : Hid (∀ (r : Nat), r < 15 → ∀ wx, Below w.heap.size w wx → Calls Tryz.prog 44 #[.slice (some (a1.add p)) n (c1 - p), .int .i8 (r : Int)] wx fun e w' => e = .returned (.bool (hasN (nmW (cutN text p n) r) n)) ∧ Below wx.heap.size wx w') := C4
        clear C4
        generalize h ||| allR (cutN text p n) n = y at *
        generalize y ||| allW (cutN text p n) n = zz at *
        generalize allR (cutN text p n) n = rd at *
        generalize allW (cutN text p n) n = wt at *
        go_upto_region 12 with (go_at_call 43; refine C3.mono ?_; rintro e w3 ⟨rfl, hb3⟩; have HB3 : Hid (Below w.heap.size w w3) := lb_trans hB2 hb3; have a0 := lkeep hb3 z0; have a1' := lkeep hb3 z1; have a2' := lkeep hb3 z2; have af0 := fro_keep hb3 z0 zf0; have af1 := fro_keep hb3 z1 zf1; have af2 := fro_keep hb3 z2 zf2; clear hb3)
        have HZ : Hid (∀ W, Below w3.heap.size w3 W → (W.cell? ⟨w.heap.size + 1, 0, none⟩ = some (.int .i64 0) ∧ W.cell? ⟨w.heap.size + 1, 1, none⟩ = some (.int .i8 0) ∧ W.cell? ⟨w.heap.size + 1, 2, none⟩ = some (.int .i8 0)) ∧ W.frozen? ⟨w.heap.size + 1, 0, none⟩ = false ∧ W.frozen? ⟨w.heap.size + 1, 1, none⟩ = false ∧ W.frozen? ⟨w.heap.size + 1, 2, none⟩ = false) := fun W hb => ⟨⟨lkeep hb a0, lkeep hb a1', lkeep hb a2'⟩, fro_keep hb a0 af0, fro_keep hb a1' af1, fro_keep hb a2' af2⟩
        clear z0 z1 z2 zf0 zf1 zf2 a0 a1' a2' af0 af1 af2 k0 k3 k4 rb2 qh C3 hb15 hu1 hu3
        go_wp2
        go_loopw [14] (fun v wr => ∃ r : Nat, v = .int .i8 (r : Int) ∧ r ≤ 15 ∧ Hid (∀ i, i < r → zz.testBit i = true) ∧ Hid (Below w3.heap.size w3 wr)) (fun v _ => 15 - (intOf v).toNat)
        case atStart => exact ⟨0, rfl, by omega, fun i hi => absurd hi (Nat.not_lt_zero _), Below.refl _ _⟩
        case round =>
          obtain ⟨r, rfl, hr15, HNo, HBr⟩ := hrel
          obtain ⟨⟨z0, z1, z2⟩, zf0, zf1, zf2⟩ := HZ.out wr HBr.out
          have hBw : Below w.heap.size w wr := lb_trans HB3.out HBr.out
          by_cases hr : r < 15
          · have hr' : (r : Int) < 15 := by omega
            by_cases hn3 : 3 < n
            · have hn3' : (3 : Int) < (n : Int) := by omega
              have hbz := bitZ hzlt r
              cases hbr : zz.testBit r with
              | false =>
                have hnm : hasN (nmW (cutN text p n) r) n = false := by
                  cases hh : hasN (nmW (cutN text p n) r) n with
                  | false => rfl
                  | true => have := HAN1.out r hh; rw [hbr] at this; cases this
                have C5 := C4h.out r hr wr hBw
                have hle : lestN zz = r := lestN_of (by omega) hbr HNo.out
                have HS : Hid (spotN text ent H n p = (4, (r : Int))) := by
                  unfold Hid
                  rw [HS1.out, hle, if_pos ⟨hn3, hr⟩]
                rw [hnm] at C5
                rw [hbr] at hbz
                clear hnm hle hbr HS1 HAN1 HNo HZ
                go_wp2_with (go_at_call 44; refine C5.mono ?_; rintro e w4 ⟨rfl, hb4⟩; have b0 := lkeep hb4 z0; have b1' := lkeep hb4 z1; have b2' := lkeep hb4 z2; have bf0 := fro_keep hb4 z0 zf0; have bf1 := fro_keep hb4 z1 zf1; have bf2 := fro_keep hb4 z2 zf2; have hB4 := lb_trans hBw hb4)
                refine bodyPost_ret (v := .tuple #[.agg #[.int .i64 (p : Int), .int .i8 4, .int .i8 (r : Int)], .bool true]) (by simp [results, Tryz.results22, go_sem, b0, b1', b2']) rfl (rsp_mk HS.out (set3 hB4) _ _ _ _ rfl rfl)
              | true =>
                have HNo2 : Hid (∀ i, i < r + 1 → zz.testBit i = true) := fun i hi => by
                  by_cases e : i = r
                  · rw [e]; exact hbr
                  · exact HNo.out i (by omega)
                rw [hbr] at hbz
                clear hbr HNo HS1 HAN1 HZ z0 z1 z2 zf0 zf1 zf2
                go_wp2
                go_roundw
                case rel => exact ⟨r + 1, by go_num, by omega, HNo2, HBr⟩
                case measure => simp [intOf]; omega
            · have hd3 : decide ((3 : Int) < (n : Int)) = false := decide_eq_false (by omega)
              have HS : Hid (spotN text ent H n p = (0, 0)) := by
                unfold Hid
                rw [HS1.out, if_neg (fun h => hn3 h.1)]
              clear HS1 HAN1 HNo HZ
              go_wp2
              refine bodyPost_ret (v := .tuple #[.agg #[.int .i64 0, .int .i8 0, .int .i8 0], .bool false]) (by simp [results, Tryz.results22, go_sem, z0, z1, z2]) rfl (rsp_mk HS.out (set3 hBw) _ _ _ _ rfl rfl)
          · obtain rfl : r = 15 := by omega
            have HS : Hid (spotN text ent H n p = (0, 0)) := by
              unfold Hid
              have h15 : ¬ lestN zz < 15 := fun hh => by
                have := HNo.out _ hh
                rw [(lestN_low zz).2.2 (by omega)] at this
                cases this
              rw [HS1.out, if_neg (fun h => h15 h.2)]
            clear HS1 HAN1 HNo HZ
            go_wp2
            refine bodyPost_ret (v := .tuple #[.agg #[.int .i64 0, .int .i8 0, .int .i8 0], .bool false]) (by simp [results, Tryz.results22, go_sem, z0, z1, z2]) rfl (rsp_mk HS.out (set3 hBw) _ _ _ _ rfl rfl)
  · have HIn : Hid (inB text ent n p = false) := by rw [Hid, HI.out, decide_eq_false_iff_not]; exact hin
    have HS : Hid (spotN text ent H n p = (0, 0)) := spot_far HIn.out
    have hd : z < (p : Int) + (n : Int) := by omega
    clear HI hin
    go_wp2
    refine bodyPost_ret (v := .tuple #[.agg #[.int .i64 0, .int .i8 0, .int .i8 0], .bool false]) (by simp [results, Tryz.results22, go_sem, z0, z1, z2]) rfl (rsp_mk HS.out (set3 hB2) _ _ _ _ rfl rfl)

end Go.Proofs.YtmlhnnmelopleaaGreatDoor
