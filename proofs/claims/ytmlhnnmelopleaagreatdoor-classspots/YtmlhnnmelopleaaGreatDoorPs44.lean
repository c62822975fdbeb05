/-
  The spots among places.
-/
import Derived.Test.YtmlhnnmelopleaaGreatDoorProg
import Derived.WalkKit
import Derived.WalkSpells
import Derived.WalkLawsBesides
import Derived.RowKit3
import Derived.Below
import Derived.Deep.QuietTactic
import Derived.BigQuiet
import Derived.WalkSmall
import Derived.Laws.Rows
import Derived.Test.YtmlhnnmelopleaaGreatDoorPs43
import Derived.Test.YtmlhnnmelopleaaGreatDoorPs13
namespace Go.Proofs.YtmlhnnmelopleaaGreatDoor
open Go.RowKit

theorem take_snocI {P : List Int} {k : Nat} (h : k < P.length) : P.take (k + 1) = P.take k ++ [nth P k] := by
  rw [List.take_succ_eq_append_getElem h]
  unfold nth
  rw [List.getD_eq_getElem?_getD, List.getElem?_eq_getElem h]; rfl
theorem spots_len (text : List Int) (ent : Int) (H : Int → Nat) (n : Nat) : ∀ l : List Int, (spotsN text ent H n l).length ≤ l.length
  | [] => Nat.le_refl _
  | p :: l => by
    have := spots_len text ent H n l
    show (if _ then spotsN text ent H n l else _ :: spotsN text ent H n l).length ≤ _
    split
    · rw [List.length_cons]; omega
    · rw [List.length_cons, List.length_cons]; omega
def SpsP (text : List Int) (ent : Int) (n : Nat) (P : List Int) (w : World) (e : Ending) (w' : World) : Prop := ∃ (H : Int → Nat) (A : Option Addr) (c : Nat), (kindN (cutN text (nth P 0).toNat n) = 3 → BhI text ent H) ∧ e = .returned (.slice A (spotsN text ent H n P).length c) ∧ w'.ownsRow w.heap.size 54 3 (.slice A (spotsN text ent H n P).length c) (spotsN text ent H n P).length (spNews (spotsN text ent H n P)) ∧ Below w.heap.size w w'

set_option maxRecDepth 100000 in
set_option maxHeartbeats 16000000 in
theorem spots_any (B : Nat) (a1 : Addr) (A2 Ab : Option Addr) (c1 ml c2 cb : Nat) (ent : Int) (text : List Int) (n m : Nat) (aP : Addr) (cP : Nat) (P : List Int) (w : World) (hT : Tz w) (hX : TxAt w B a1 A2 Ab c1 ml c2 cb ent text) (hR : ∀ i, i < text.length → 0 ≤ nth text i ∧ nth text i < 4294967296) (hE : (checkI text ml ent).1 = 0) (hl : text.length ≤ 16384) (hm : ml ≤ 1048576) (hc : text.length ≤ c1) (hnm : n = m + 1) (hP : IntsAt w (some aP) .i64 P) (hP0 : 0 < P.length) (hPl : P.length ≤ 1048576) (hfit : ∀ i, i < P.length → 0 ≤ nth P i ∧ nth P i + (n : Int) ≤ (text.length : Int)) (hsame : ∀ i, i < P.length → cutN text (nth P i).toNat n = cutN text (nth P 0).toNat n) :
    Calls Tryz.prog 36 #[.pointer (some ⟨B, 0, none⟩), .int .i64 (n : Int), .slice (some aP) P.length cP] w (SpsP text ent n P w) := by
  obtain ⟨p0, hp0⟩ : ∃ p0 : Nat, nth P 0 = (p0 : Int) := ⟨_, (Int.toNat_of_nonneg (hfit 0 hP0).1).symm⟩
  have hf0 : p0 + n ≤ text.length := by have := (hfit 0 hP0).2; omega
  have hn0 : 0 < n := by omega
  have q0 : w.cell? aP = some (.int .i64 (p0 : Int)) := by
    obtain ⟨x, ex, q⟩ := hP 0 hP0
    obtain rfl := Option.some.inj ex
    rw [hp0] at q
    rw [show aP.add 0 = aP by simp [Addr.add]] at q
    exact q
  have CF := txfrom_any B a1 A2 Ab c1 ml c2 cb ent text n p0 w hX (by omega) hc hn0 hf0
  have CC := classes_any B a1 A2 Ab c1 ml c2 cb ent text n p0 m w hX hR hE hl hm hc hnm hf0
  have HX : Hid (TxAt w B a1 A2 Ab c1 ml c2 cb ent text) := hX
  have HP : Hid (IntsAt w (some aP) .i64 P) := hP
  have HT : Hid (Tz w) := hT
  have Hnm : Hid (n = m + 1) := hnm
  have Hfit : Hid (∀ i, i < P.length → 0 ≤ nth P i ∧ nth P i + (n : Int) ≤ (text.length : Int)) := hfit
  have Hsame : Hid (∀ i, i < P.length → cutN text (nth P i).toNat n = cutN text p0 n) := fun i hi => by
    have := hsame i hi
    rw [hp0] at this
    exact this
  have Hp0 : Hid (nth P 0 = (p0 : Int)) := hp0
  have hP0' : (0 : Int) < (P.length : Int) := by omega
  obtain ⟨iS, hi, hz0, hz1, hz2⟩ := infoSp
  clear hX hP hR hE hnm hfit hsame hp0 hT
  go_enter Tryz.func36, Tryz.ntmps36
  go_wp2
  go_step3
  go_upto_region 2 with fail
  go_upto_region 3 with (first
    | (go_at_call 55; refine CF.mono ?_; rintro e w0 ⟨rfl, e1⟩; have e2 := e1.symm; clear e1; subst e2)
    | (go_at_call 57; refine CC.mono ?_; rintro e w1 ⟨g, bk, bl, bb, bz, br, bt, H, rfl, hls, hcl, hb1⟩; have HL : Hid (∀ i v, (ClsV bk bl bb bz br bt)[i]? = some v → w1.cell? ⟨g, i, none⟩ = some v) := hls; have HC : Hid (ClsAt w1 bk bl bb bz br bt text ent H n p0 m (some (a1.add p0)) (c1 - p0)) := hcl; have HB1 : Hid (Below w.heap.size w w1) := hb1; clear hls hcl hb1))
  go_step3
  clear CF CC q0 hP0'
  have HUx : Hid (∀ p : Nat, p + n ≤ text.length → cutN text p n = cutN text p0 n → ∀ wx, Below w1.heap.size w1 wx → Tz wx ∧ ClsAt wx bk bl bb bz br bt text ent H n p0 m (some (a1.add p0)) (c1 - p0)) := fun p _ _ wx hb => ⟨HT.out.below (lb_trans HB1.out hb), HC.out.keep hb⟩
  have HS0 : Hid (w1.ownsRow w1.heap.size 54 3 (.slice none 0 0) 0 (spNews [])) := World.ownsRow_nil _ _ _ _
  go_wp2
  go_loopg [7, 25] P.length (fun gg v7 v25 wr => ∃ (k : Nat) (S : List Spt) (A : Option Addr) (c : Nat), k + gg = P.length ∧ v7 = .slice A S.length c ∧ v25 = .int .i64 (k : Int) ∧ k ≤ P.length ∧ S = spotsN text ent H n (P.take k) ∧ Hid (wr.ownsRow w1.heap.size 54 3 (.slice A S.length c) S.length (spNews S)) ∧ Hid (Below w1.heap.size w1 wr))
  case atStart => exact ⟨0, [], none, 0, by omega, rfl, rfl, Nat.zero_le _, rfl, HS0, Below.refl _ _⟩
  case round =>
    clear HS0
    obtain ⟨k, S, A, c, hkg, rfl, rfl, hk, hS, HRw, HB⟩ := hrel
    obtain ⟨V, rfl⟩ : ∃ V, V = wr := ⟨wr, rfl⟩
    have HSe : Hid (S = spotsN text ent H n (P.take k)) := hS
    clear hS
    have hSl : S.length ≤ 1048576 := by
      rw [HSe.out]
      have := spots_len text ent H n (P.take k)
      rw [List.length_take] at this
      omega
    by_cases hlt : k < P.length
    · obtain ⟨g1, rfl⟩ : ∃ g1, gk = g1 + 1 := ⟨gk - 1, by omega⟩
      have hlt' : (k : Int) < (P.length : Int) := by omega
      obtain ⟨f0, f1⟩ := Hfit.out k hlt
      obtain ⟨p, hp⟩ : ∃ p : Nat, nth P k = (p : Int) := ⟨_, (Int.toNat_of_nonneg f0).symm⟩
      have hpn : p + n ≤ text.length := by omega
      obtain ⟨x, ex, q⟩ := (HP.out.keep (lb_trans HB1.out HB.out)) k hlt
      obtain rfl := Option.some.inj ex
      rw [hp] at q
      have hcs : cutN text p n = cutN text p0 n := by
        have := Hsame.out k hlt
        rw [hp] at this
        exact this
      have HSt : Hid (spotsN text ent H n (P.take (k + 1)) = S ++ (if (spotN text ent H n p).1 = 0 then [] else [((p : Int), spotN text ent H n p)])) := by
        unfold Hid
        rw [take_snocI hlt, spots_snoc, HSe.out, hp]
        rfl
      have CI := inone_any B a1 A2 Ab c1 ml c2 cb ent text n p V (HX.out.keep (lb_trans HB1.out HB.out)) hl hn0 hpn
      have hkd : kindN (cutN text p n) = kindN (cutN text p0 n) := by rw [hcs]
      have HFar : Hid (inB text ent n p = false → spotN text ent H n p = (0, 0)) := fun h => spot_far h
      have HFst : Hid (inB text ent n p = true → ∀ j, j < 4 → (∀ i, i < j → tstN (kindN (cutN text p0 n)) n (H ((p + n - 1 : Nat) : Int)) (busyN text H n p) i = false) → tstN (kindN (cutN text p0 n)) n (H ((p + n - 1 : Nat) : Int)) (busyN text H n p) j = true → spotN text ent H n p = ansN (busyN text H n p) j) := fun hi j hj h1 h2 => spot_first hi hj hkd h1 h2
      have HOut : Hid ((∀ i, i < 4 → tstN (kindN (cutN text p0 n)) n (H ((p + n - 1 : Nat) : Int)) (busyN text H n p) i = false) → spotN text ent H n p = (0, 0)) := fun h => spot_out hkd h
      have HU0 : Hid (∀ wx, Below w1.heap.size w1 wx → Calls Tryz.prog 75 #[.int .i64 (p : Int), .pointer (some ⟨bk, 0, none⟩)] wx (ClsQ (kindN (cutN text p0 n)) n (H ((p + n - 1 : Nat) : Int)) (busyN text H n p) (p : Int) 0 wx)) := fun wx hb => clsU0 bk bl bb bz br bt text ent H n p0 m _ _ p wx (HUx.out p hpn hcs wx hb).1 (HUx.out p hpn hcs wx hb).2 Hnm.out hpn hl hcs
      have HU1 : Hid (∀ wx, Below w1.heap.size w1 wx → Calls Tryz.prog 76 #[.int .i64 (p : Int), .pointer (some ⟨bk, 0, none⟩)] wx (ClsQ (kindN (cutN text p0 n)) n (H ((p + n - 1 : Nat) : Int)) (busyN text H n p) (p : Int) 1 wx)) := fun wx hb => clsU1 bk bl bb bz br bt text ent H n p0 m _ _ p wx (HUx.out p hpn hcs wx hb).1 (HUx.out p hpn hcs wx hb).2 Hnm.out hpn hl hcs
      have HU2 : Hid (∀ wx, Below w1.heap.size w1 wx → Calls Tryz.prog 77 #[.int .i64 (p : Int), .pointer (some ⟨bk, 0, none⟩), .pointer (some ⟨bb, 0, none⟩), .pointer (some ⟨bz, 0, none⟩)] wx (ClsQ (kindN (cutN text p0 n)) n (H ((p + n - 1 : Nat) : Int)) (busyN text H n p) (p : Int) 2 wx)) := fun wx hb => clsU2 bk bl bb bz br bt text ent H n p0 m _ _ p wx (HUx.out p hpn hcs wx hb).1 (HUx.out p hpn hcs wx hb).2 Hnm.out hpn hl hcs
      have HU3 : Hid (∀ wx, Below w1.heap.size w1 wx → Calls Tryz.prog 78 #[.int .i64 (p : Int), .pointer (some ⟨bk, 0, none⟩), .pointer (some ⟨bl, 0, none⟩), .pointer (some ⟨bb, 0, none⟩), .pointer (some ⟨bz, 0, none⟩), .pointer (some ⟨br, 0, none⟩), .pointer (some ⟨bt, 0, none⟩)] wx (ClsQ (kindN (cutN text p0 n)) n (H ((p + n - 1 : Nat) : Int)) (busyN text H n p) (p : Int) 3 wx)) := fun wx hb => clsU3 bk bl bb bz br bt text ent H n p0 m _ _ p wx (HUx.out p hpn hcs wx hb).1 (HUx.out p hpn hcs wx hb).2 Hnm.out hpn hl hcs
      clear f0 f1 hcs hkd hp
      generalize kindN (cutN text p0 n) = kd at *
      generalize H ((p + n - 1 : Nat) : Int) = h at *
      generalize busyN text H n p = z at *
      cases hib : inB text ent n p with
      | false =>
        have HSn : Hid (spotsN text ent H n (P.take (k + 1)) = S) := by
          unfold Hid
          rw [HSt.out, HFar.out hib, if_pos rfl, List.append_nil]
        rw [hib] at CI
        clear hib HFst HOut HFar HU0 HU1 HU2 HU3 HSt
        go_wp2_with (go_at_call 58; refine CI.mono ?_; rintro e w2 ⟨rfl, hb2⟩)
        go_roundg g1
        case measure => omega
        case rel => exact ⟨k + 1, S, A, c, by omega, rfl, by go_num, by omega, HSn.out.symm, row_keep HRw.out hb2, lb_trans HB.out hb2⟩
      | true =>
        replace HFst : Hid (∀ j, j < 4 → (∀ i, i < j → tstN kd n h z i = false) → tstN kd n h z j = true → spotN text ent H n p = ansN z j) := HFst.out hib
        rw [hib] at CI
        clear hib HFar
        go_upto_region 7 with (go_at_call 58; refine CI.mono ?_; rintro e w2 ⟨rfl, hb2'⟩; have hb2 : Hid (Below V.heap.size V w2) := hb2'; have HB2 : Hid (Below w1.heap.size w1 w2) := lb_trans HB.out hb2'; clear hb2')
        clear CI q
        replace HU0 := fun wx (hb : Below w2.heap.size w2 wx) => HU0.out wx (lb_trans HB2.out hb)
        replace HU1 := fun wx (hb : Below w2.heap.size w2 wx) => HU1.out wx (lb_trans HB2.out hb)
        replace HU2 := fun wx (hb : Below w2.heap.size w2 wx) => HU2.out wx (lb_trans HB2.out hb)
        replace HU3 := fun wx (hb : Below w2.heap.size w2 wx) => HU3.out wx (lb_trans HB2.out hb)
        have HLL : Hid (∀ wx, Below w2.heap.size w2 wx → ∀ i v, (ClsV bk bl bb bz br bt)[i]? = some v → wx.cell? ⟨g, i, none⟩ = some v) := fun wx hb i v hv => lkeep (lb_trans HB2.out hb) (HL.out i v hv)
        have HV0 : Hid (∀ wx, Below w2.heap.size w2 wx → Calls Tryz.prog 75 #[.int .i64 (p : Int), .pointer (some ⟨bk, 0, none⟩)] wx (ClsQ kd n h z (p : Int) 0 wx)) := HU0
        have HV1 : Hid (∀ wx, Below w2.heap.size w2 wx → Calls Tryz.prog 76 #[.int .i64 (p : Int), .pointer (some ⟨bk, 0, none⟩)] wx (ClsQ kd n h z (p : Int) 1 wx)) := HU1
        have HV2 : Hid (∀ wx, Below w2.heap.size w2 wx → Calls Tryz.prog 77 #[.int .i64 (p : Int), .pointer (some ⟨bk, 0, none⟩), .pointer (some ⟨bb, 0, none⟩), .pointer (some ⟨bz, 0, none⟩)] wx (ClsQ kd n h z (p : Int) 2 wx)) := HU2
        have HV3 : Hid (∀ wx, Below w2.heap.size w2 wx → Calls Tryz.prog 78 #[.int .i64 (p : Int), .pointer (some ⟨bk, 0, none⟩), .pointer (some ⟨bl, 0, none⟩), .pointer (some ⟨bb, 0, none⟩), .pointer (some ⟨bz, 0, none⟩), .pointer (some ⟨br, 0, none⟩), .pointer (some ⟨bt, 0, none⟩)] wx (ClsQ kd n h z (p : Int) 3 wx)) := HU3
        clear HU0 HU1 HU2 HU3 HUx
        go_wp2
        go_loopg [7, 36] 4 (fun gg v7 v36 ws => ∃ j : Nat, j + gg = 4 ∧ v7 = .slice A S.length c ∧ v36 = .int .i64 (j : Int) ∧ j ≤ 4 ∧ Hid (∀ i, i < j → tstN kd n h z i = false) ∧ Hid (Below w2.heap.size w2 ws))
        case atStart => exact ⟨0, by omega, rfl, rfl, by omega, fun i hi => absurd hi (Nat.not_lt_zero _), Below.refl _ _⟩
        case round =>
          obtain ⟨j, hjg, rfl, rfl, hj4, HNo, HBs⟩ := hrel
          by_cases hj : j < 4
          · have HLs : Hid (∀ i v, (ClsV bk bl bb bz br bt)[i]? = some v → _) := HLL.out _ HBs.out
            have hjj : j = 0 ∨ j = 1 ∨ j = 2 ∨ j = 3 := by omega
            clear hj hj4
            rcases hjj with hj | hj | hj | hj
            · obtain rfl : j = 0 := hj
              have qk := HLs.out 0 _ rfl
              have CU := HV0.out _ HBs.out
              have HNo' : Hid (∀ i, i < 0 → tstN kd n h z i = false) := HNo
              unfold ClsQ at CU
              cases hb : tstN kd n h z 0 with
              | true =>
                have HSp : Hid (spotN text ent H n p = ansN z 0) := HFst.out 0 (by omega) HNo'.out hb
                have HPos : Hid ((ansN z 0).1 ≠ 0) := ans_pos z (by omega)
                rw [hb] at CU
                clear hb HNo HNo'
                go_upto_region 12 with (go_at_call 75; refine CU.mono ?_; rintro e w3 ⟨⟨v1, v2, v3, rfl, hv⟩, hb3⟩; have HV : Hid (v1 = (p : Int) ∧ (v2, v3) = ansN z 0) := hv rfl; have HB3 : Hid (Below w2.heap.size w2 w3) := lb_trans HBs.out hb3; clear hv hb3)
                obtain ⟨W4, HW4⟩ : ∃ W4, Hid (w3.alloc (.cells #[.int .i64 v1, .int .i8 v2, .int .i8 v3] 54) = W4) := ⟨_, rfl⟩
                have HB4 : Hid (Below w1.heap.size w1 W4) := by unfold Hid; rw [← HW4.out]; exact lb_alloc (lb_trans HB2.out HB3.out) _
                have t0 : W4.cell? ⟨w3.heap.size, 0, none⟩ = some (.int .i64 v1) := by rw [← HW4.out]; simp [go_sem]
                have t1 : W4.cell? ⟨w3.heap.size, 1, none⟩ = some (.int .i8 v2) := by rw [← HW4.out]; simp [go_sem]
                have t2 : W4.cell? ⟨w3.heap.size, 2, none⟩ = some (.int .i8 v3) := by rw [← HW4.out]; simp [go_sem]
                have HBV : Hid (Below V.heap.size V W4) := by unfold Hid; rw [← HW4.out]; exact lb_alloc (lb_trans hb2.out HB3.out) _
                have HR4 : Hid (W4.ownsRow w1.heap.size 54 3 (.slice A S.length c) S.length (spNews S)) := row_keep HRw.out HBV.out
                rw [HW4.out]
                clear HW4
                have HBa : Hid (Below w1.heap.size w1 (W4.alloc (.cells #[.int .i64 v1, .int .i8 v2, .int .i8 v3] 54))) := lb_alloc HB4.out _
                have HRa : Hid ((W4.alloc (.cells #[.int .i64 v1, .int .i8 v2, .int .i8 v3] 54)).ownsRow w1.heap.size 54 3 (.slice A S.length c) S.length (spNews S)) := row_keep HR4.out (lb_alloc (Below.refl _ _) _)
                go_wp2_with (at_builtin; go_loud (refine wpList_append_own _ rfl (.tmp 47) (.tmp 49) 38 rfl w1.heap.size 54 iS (.agg #[.int .i64 0, .int .i8 0, .int .i8 0]) 3 16 Tryz.underlying38 hi hz0 hz1 hz2 rfl (by decide) (.slice A S.length c) S.length (spNews S) rfl HRa.out ⟨W4.heap.size, 0, none⟩ 1 1 [.int .i64 v1, .int .i8 v2, .int .i8 v3] rfl rfl (fun j u hu => World.news_of_block (new_at (by simp)) j u hu) (sp_oneI v1 v2 v3) (by unfold maxLen; omega) (by omega) HBa.out.size ?_; intro x5 w5 hown hgrow _; have HB5 : Hid (Below w1.heap.size w1 w5) := HBa.out.grown hgrow HBa.out.size (fun b hb => (HRa.out.lt b hb).1); have HR5 : Hid (w5.ownsRow w1.heap.size 54 3 x5 (S.length + 1) (spNews S ++ [.int .i64 v1, .int .i8 v2, .int .i8 v3])) := hown; clear hown hgrow))
                obtain ⟨A6, c6, rfl, -⟩ := own_formS HR5.out
                have HSn : Hid (spotsN text ent H n (P.take (k + 1)) = S ++ [(v1, v2, v3)]) := by
                  unfold Hid
                  rw [HSt.out, HSp.out, if_neg HPos.out, HV.out.1, ← HV.out.2]
                go_roundg g1
                case measure => omega
                case rel => exact ⟨k + 1, S ++ [(v1, v2, v3)], A6, c6, by omega, by rw [List.length_append]; rfl, by go_num, by omega, HSn.out.symm, by unfold Hid; rw [spNews_app, List.length_append]; exact HR5.out, HB5⟩
              | false =>
                have HNn : Hid (∀ i, i < 0 + 1 → tstN kd n h z i = false) := fun i hi => by
                  by_cases e : i = 0
                  · rw [e]; exact hb
                  · exact HNo'.out i (by omega)
                rw [hb] at CU
                clear hb HNo HNo'
                go_wp2_with (go_at_call 75; refine CU.mono ?_; rintro e w3 ⟨⟨v1, v2, v3, rfl, hv⟩, hb3⟩; have HB3 : Hid (Below w2.heap.size w2 w3) := lb_trans HBs.out hb3; clear hv hb3)
                go_roundg (gk - 1)
                case measure => omega
                case rel => exact ⟨0 + 1, by omega, rfl, by go_num, by omega, HNn, lb_alloc HB3.out _⟩
            · obtain rfl : j = 1 := hj
              have qk := HLs.out 1 _ rfl
              have CU := HV1.out _ HBs.out
              have HNo' : Hid (∀ i, i < 1 → tstN kd n h z i = false) := HNo
              unfold ClsQ at CU
              cases hb : tstN kd n h z 1 with
              | true =>
                have HSp : Hid (spotN text ent H n p = ansN z 1) := HFst.out 1 (by omega) HNo'.out hb
                have HPos : Hid ((ansN z 1).1 ≠ 0) := ans_pos z (by omega)
                rw [hb] at CU
                clear hb HNo HNo'
                go_upto_region 12 with (go_at_call 76; refine CU.mono ?_; rintro e w3 ⟨⟨v1, v2, v3, rfl, hv⟩, hb3⟩; have HV : Hid (v1 = (p : Int) ∧ (v2, v3) = ansN z 1) := hv rfl; have HB3 : Hid (Below w2.heap.size w2 w3) := lb_trans HBs.out hb3; clear hv hb3)
                obtain ⟨W4, HW4⟩ : ∃ W4, Hid (w3.alloc (.cells #[.int .i64 v1, .int .i8 v2, .int .i8 v3] 54) = W4) := ⟨_, rfl⟩
                have HB4 : Hid (Below w1.heap.size w1 W4) := by unfold Hid; rw [← HW4.out]; exact lb_alloc (lb_trans HB2.out HB3.out) _
                have t0 : W4.cell? ⟨w3.heap.size, 0, none⟩ = some (.int .i64 v1) := by rw [← HW4.out]; simp [go_sem]
                have t1 : W4.cell? ⟨w3.heap.size, 1, none⟩ = some (.int .i8 v2) := by rw [← HW4.out]; simp [go_sem]
                have t2 : W4.cell? ⟨w3.heap.size, 2, none⟩ = some (.int .i8 v3) := by rw [← HW4.out]; simp [go_sem]
                have HBV : Hid (Below V.heap.size V W4) := by unfold Hid; rw [← HW4.out]; exact lb_alloc (lb_trans hb2.out HB3.out) _
                have HR4 : Hid (W4.ownsRow w1.heap.size 54 3 (.slice A S.length c) S.length (spNews S)) := row_keep HRw.out HBV.out
                rw [HW4.out]
                clear HW4
                have HBa : Hid (Below w1.heap.size w1 (W4.alloc (.cells #[.int .i64 v1, .int .i8 v2, .int .i8 v3] 54))) := lb_alloc HB4.out _
                have HRa : Hid ((W4.alloc (.cells #[.int .i64 v1, .int .i8 v2, .int .i8 v3] 54)).ownsRow w1.heap.size 54 3 (.slice A S.length c) S.length (spNews S)) := row_keep HR4.out (lb_alloc (Below.refl _ _) _)
                go_wp2_with (at_builtin; go_loud (refine wpList_append_own _ rfl (.tmp 47) (.tmp 49) 38 rfl w1.heap.size 54 iS (.agg #[.int .i64 0, .int .i8 0, .int .i8 0]) 3 16 Tryz.underlying38 hi hz0 hz1 hz2 rfl (by decide) (.slice A S.length c) S.length (spNews S) rfl HRa.out ⟨W4.heap.size, 0, none⟩ 1 1 [.int .i64 v1, .int .i8 v2, .int .i8 v3] rfl rfl (fun j u hu => World.news_of_block (new_at (by simp)) j u hu) (sp_oneI v1 v2 v3) (by unfold maxLen; omega) (by omega) HBa.out.size ?_; intro x5 w5 hown hgrow _; have HB5 : Hid (Below w1.heap.size w1 w5) := HBa.out.grown hgrow HBa.out.size (fun b hb => (HRa.out.lt b hb).1); have HR5 : Hid (w5.ownsRow w1.heap.size 54 3 x5 (S.length + 1) (spNews S ++ [.int .i64 v1, .int .i8 v2, .int .i8 v3])) := hown; clear hown hgrow))
                obtain ⟨A6, c6, rfl, -⟩ := own_formS HR5.out
                have HSn : Hid (spotsN text ent H n (P.take (k + 1)) = S ++ [(v1, v2, v3)]) := by
                  unfold Hid
                  rw [HSt.out, HSp.out, if_neg HPos.out, HV.out.1, ← HV.out.2]
                go_roundg g1
                case measure => omega
                case rel => exact ⟨k + 1, S ++ [(v1, v2, v3)], A6, c6, by omega, by rw [List.length_append]; rfl, by go_num, by omega, HSn.out.symm, by unfold Hid; rw [spNews_app, List.length_append]; exact HR5.out, HB5⟩
              | false =>
                have HNn : Hid (∀ i, i < 1 + 1 → tstN kd n h z i = false) := fun i hi => by
                  by_cases e : i = 1
                  · rw [e]; exact hb
                  · exact HNo'.out i (by omega)
                rw [hb] at CU
                clear hb HNo HNo'
                go_wp2_with (go_at_call 76; refine CU.mono ?_; rintro e w3 ⟨⟨v1, v2, v3, rfl, hv⟩, hb3⟩; have HB3 : Hid (Below w2.heap.size w2 w3) := lb_trans HBs.out hb3; clear hv hb3)
                go_roundg (gk - 1)
                case measure => omega
                case rel => exact ⟨1 + 1, by omega, rfl, by go_num, by omega, HNn, lb_alloc HB3.out _⟩
            · obtain rfl : j = 2 := hj
              have qk := HLs.out 2 _ rfl
              have CU := HV2.out _ HBs.out
              have HNo' : Hid (∀ i, i < 2 → tstN kd n h z i = false) := HNo
              unfold ClsQ at CU
              cases hb : tstN kd n h z 2 with
              | true =>
                have HSp : Hid (spotN text ent H n p = ansN z 2) := HFst.out 2 (by omega) HNo'.out hb
                have HPos : Hid ((ansN z 2).1 ≠ 0) := ans_pos z (by omega)
                rw [hb] at CU
                clear hb HNo HNo'
                go_upto_region 12 with (go_at_call 77; refine CU.mono ?_; rintro e w3 ⟨⟨v1, v2, v3, rfl, hv⟩, hb3⟩; have HV : Hid (v1 = (p : Int) ∧ (v2, v3) = ansN z 2) := hv rfl; have HB3 : Hid (Below w2.heap.size w2 w3) := lb_trans HBs.out hb3; clear hv hb3)
                obtain ⟨W4, HW4⟩ : ∃ W4, Hid (w3.alloc (.cells #[.int .i64 v1, .int .i8 v2, .int .i8 v3] 54) = W4) := ⟨_, rfl⟩
                have HB4 : Hid (Below w1.heap.size w1 W4) := by unfold Hid; rw [← HW4.out]; exact lb_alloc (lb_trans HB2.out HB3.out) _
                have t0 : W4.cell? ⟨w3.heap.size, 0, none⟩ = some (.int .i64 v1) := by rw [← HW4.out]; simp [go_sem]
                have t1 : W4.cell? ⟨w3.heap.size, 1, none⟩ = some (.int .i8 v2) := by rw [← HW4.out]; simp [go_sem]
                have t2 : W4.cell? ⟨w3.heap.size, 2, none⟩ = some (.int .i8 v3) := by rw [← HW4.out]; simp [go_sem]
                have HBV : Hid (Below V.heap.size V W4) := by unfold Hid; rw [← HW4.out]; exact lb_alloc (lb_trans hb2.out HB3.out) _
                have HR4 : Hid (W4.ownsRow w1.heap.size 54 3 (.slice A S.length c) S.length (spNews S)) := row_keep HRw.out HBV.out
                rw [HW4.out]
                clear HW4
                have HBa : Hid (Below w1.heap.size w1 (W4.alloc (.cells #[.int .i64 v1, .int .i8 v2, .int .i8 v3] 54))) := lb_alloc HB4.out _
                have HRa : Hid ((W4.alloc (.cells #[.int .i64 v1, .int .i8 v2, .int .i8 v3] 54)).ownsRow w1.heap.size 54 3 (.slice A S.length c) S.length (spNews S)) := row_keep HR4.out (lb_alloc (Below.refl _ _) _)
                go_wp2_with (at_builtin; go_loud (refine wpList_append_own _ rfl (.tmp 47) (.tmp 49) 38 rfl w1.heap.size 54 iS (.agg #[.int .i64 0, .int .i8 0, .int .i8 0]) 3 16 Tryz.underlying38 hi hz0 hz1 hz2 rfl (by decide) (.slice A S.length c) S.length (spNews S) rfl HRa.out ⟨W4.heap.size, 0, none⟩ 1 1 [.int .i64 v1, .int .i8 v2, .int .i8 v3] rfl rfl (fun j u hu => World.news_of_block (new_at (by simp)) j u hu) (sp_oneI v1 v2 v3) (by unfold maxLen; omega) (by omega) HBa.out.size ?_; intro x5 w5 hown hgrow _; have HB5 : Hid (Below w1.heap.size w1 w5) := HBa.out.grown hgrow HBa.out.size (fun b hb => (HRa.out.lt b hb).1); have HR5 : Hid (w5.ownsRow w1.heap.size 54 3 x5 (S.length + 1) (spNews S ++ [.int .i64 v1, .int .i8 v2, .int .i8 v3])) := hown; clear hown hgrow))
                obtain ⟨A6, c6, rfl, -⟩ := own_formS HR5.out
                have HSn : Hid (spotsN text ent H n (P.take (k + 1)) = S ++ [(v1, v2, v3)]) := by
                  unfold Hid
                  rw [HSt.out, HSp.out, if_neg HPos.out, HV.out.1, ← HV.out.2]
                go_roundg g1
                case measure => omega
                case rel => exact ⟨k + 1, S ++ [(v1, v2, v3)], A6, c6, by omega, by rw [List.length_append]; rfl, by go_num, by omega, HSn.out.symm, by unfold Hid; rw [spNews_app, List.length_append]; exact HR5.out, HB5⟩
              | false =>
                have HNn : Hid (∀ i, i < 2 + 1 → tstN kd n h z i = false) := fun i hi => by
                  by_cases e : i = 2
                  · rw [e]; exact hb
                  · exact HNo'.out i (by omega)
                rw [hb] at CU
                clear hb HNo HNo'
                go_wp2_with (go_at_call 77; refine CU.mono ?_; rintro e w3 ⟨⟨v1, v2, v3, rfl, hv⟩, hb3⟩; have HB3 : Hid (Below w2.heap.size w2 w3) := lb_trans HBs.out hb3; clear hv hb3)
                go_roundg (gk - 1)
                case measure => omega
                case rel => exact ⟨2 + 1, by omega, rfl, by go_num, by omega, HNn, lb_alloc HB3.out _⟩
            · obtain rfl : j = 3 := hj
              have qk := HLs.out 3 _ rfl
              have CU := HV3.out _ HBs.out
              have HNo' : Hid (∀ i, i < 3 → tstN kd n h z i = false) := HNo
              unfold ClsQ at CU
              cases hb : tstN kd n h z 3 with
              | true =>
                have HSp : Hid (spotN text ent H n p = ansN z 3) := HFst.out 3 (by omega) HNo'.out hb
                have HPos : Hid ((ansN z 3).1 ≠ 0) := ans_pos z (by omega)
                rw [hb] at CU
                clear hb HNo HNo'
                go_upto_region 12 with (go_at_call 78; refine CU.mono ?_; rintro e w3 ⟨⟨v1, v2, v3, rfl, hv⟩, hb3⟩; have HV : Hid (v1 = (p : Int) ∧ (v2, v3) = ansN z 3) := hv rfl; have HB3 : Hid (Below w2.heap.size w2 w3) := lb_trans HBs.out hb3; clear hv hb3)
                obtain ⟨W4, HW4⟩ : ∃ W4, Hid (w3.alloc (.cells #[.int .i64 v1, .int .i8 v2, .int .i8 v3] 54) = W4) := ⟨_, rfl⟩
                have HB4 : Hid (Below w1.heap.size w1 W4) := by unfold Hid; rw [← HW4.out]; exact lb_alloc (lb_trans HB2.out HB3.out) _
                have t0 : W4.cell? ⟨w3.heap.size, 0, none⟩ = some (.int .i64 v1) := by rw [← HW4.out]; simp [go_sem]
                have t1 : W4.cell? ⟨w3.heap.size, 1, none⟩ = some (.int .i8 v2) := by rw [← HW4.out]; simp [go_sem]
                have t2 : W4.cell? ⟨w3.heap.size, 2, none⟩ = some (.int .i8 v3) := by rw [← HW4.out]; simp [go_sem]
                have HBV : Hid (Below V.heap.size V W4) := by unfold Hid; rw [← HW4.out]; exact lb_alloc (lb_trans hb2.out HB3.out) _
                have HR4 : Hid (W4.ownsRow w1.heap.size 54 3 (.slice A S.length c) S.length (spNews S)) := row_keep HRw.out HBV.out
                rw [HW4.out]
                clear HW4
                have HBa : Hid (Below w1.heap.size w1 (W4.alloc (.cells #[.int .i64 v1, .int .i8 v2, .int .i8 v3] 54))) := lb_alloc HB4.out _
                have HRa : Hid ((W4.alloc (.cells #[.int .i64 v1, .int .i8 v2, .int .i8 v3] 54)).ownsRow w1.heap.size 54 3 (.slice A S.length c) S.length (spNews S)) := row_keep HR4.out (lb_alloc (Below.refl _ _) _)
                go_wp2_with (at_builtin; go_loud (refine wpList_append_own _ rfl (.tmp 47) (.tmp 49) 38 rfl w1.heap.size 54 iS (.agg #[.int .i64 0, .int .i8 0, .int .i8 0]) 3 16 Tryz.underlying38 hi hz0 hz1 hz2 rfl (by decide) (.slice A S.length c) S.length (spNews S) rfl HRa.out ⟨W4.heap.size, 0, none⟩ 1 1 [.int .i64 v1, .int .i8 v2, .int .i8 v3] rfl rfl (fun j u hu => World.news_of_block (new_at (by simp)) j u hu) (sp_oneI v1 v2 v3) (by unfold maxLen; omega) (by omega) HBa.out.size ?_; intro x5 w5 hown hgrow _; have HB5 : Hid (Below w1.heap.size w1 w5) := HBa.out.grown hgrow HBa.out.size (fun b hb => (HRa.out.lt b hb).1); have HR5 : Hid (w5.ownsRow w1.heap.size 54 3 x5 (S.length + 1) (spNews S ++ [.int .i64 v1, .int .i8 v2, .int .i8 v3])) := hown; clear hown hgrow))
                obtain ⟨A6, c6, rfl, -⟩ := own_formS HR5.out
                have HSn : Hid (spotsN text ent H n (P.take (k + 1)) = S ++ [(v1, v2, v3)]) := by
                  unfold Hid
                  rw [HSt.out, HSp.out, if_neg HPos.out, HV.out.1, ← HV.out.2]
                go_roundg g1
                case measure => omega
                case rel => exact ⟨k + 1, S ++ [(v1, v2, v3)], A6, c6, by omega, by rw [List.length_append]; rfl, by go_num, by omega, HSn.out.symm, by unfold Hid; rw [spNews_app, List.length_append]; exact HR5.out, HB5⟩
              | false =>
                have HNn : Hid (∀ i, i < 3 + 1 → tstN kd n h z i = false) := fun i hi => by
                  by_cases e : i = 3
                  · rw [e]; exact hb
                  · exact HNo'.out i (by omega)
                rw [hb] at CU
                clear hb HNo HNo'
                go_wp2_with (go_at_call 78; refine CU.mono ?_; rintro e w3 ⟨⟨v1, v2, v3, rfl, hv⟩, hb3⟩; have HB3 : Hid (Below w2.heap.size w2 w3) := lb_trans HBs.out hb3; clear hv hb3)
                go_roundg (gk - 1)
                case measure => omega
                case rel => exact ⟨3 + 1, by omega, rfl, by go_num, by omega, HNn, lb_alloc HB3.out _⟩
          · obtain rfl : j = 4 := by omega
            have HSn : Hid (spotsN text ent H n (P.take (k + 1)) = S) := by
              unfold Hid
              rw [HSt.out, HOut.out HNo.out, if_pos rfl, List.append_nil]
            clear HNo hj
            go_wp2
            go_roundg g1
            case measure => omega
            case rel => exact ⟨k + 1, S, A, c, by omega, rfl, by go_num, by omega, HSn.out.symm, row_keep HRw.out (lb_trans hb2.out HBs.out), lb_trans HB2.out HBs.out⟩
    · obtain rfl : k = P.length := by omega
      have hlt' : ¬ (P.length : Int) < (P.length : Int) := by omega
      have HE : Hid (S = spotsN text ent H n P) := by
        unfold Hid
        rw [HSe.out, List.take_length]
      have HBE : Hid (kindN (cutN text (nth P 0).toNat n) = 3 → BhI text ent H) := fun h3 => by
        rw [Hp0.out] at h3
        obtain ⟨_, _, _, _, h⟩ := HC.out.b h3
        exact h
      have HFin : Hid (∀ wx, wx = V → SpsP text ent n P w (.returned (.slice A S.length c)) wx) := fun wx e => by
        subst e
        refine ⟨H, A, c, HBE.out, by rw [← HE.out], ?_, lb_trans HB1.out HB.out⟩
        rw [← HE.out]
        exact ownMono HRw.out HB1.out.size
      go_wp2
      try rw [Exit.noGoto_ret]
      go_ret
      exact HFin.out _ rfl

end Go.Proofs.YtmlhnnmelopleaaGreatDoor
