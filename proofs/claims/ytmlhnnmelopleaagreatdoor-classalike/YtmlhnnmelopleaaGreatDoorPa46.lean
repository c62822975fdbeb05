/-
  The law ClassAlike.
-/
import Derived.Test.YtmlhnnmelopleaaGreatDoorProg
import Derived.WalkKit
import Derived.WalkSpells
import Derived.WalkLawsBesides
import Derived.RowKit3
import Derived.Below
import Derived.Deep.QuietTactic
import Derived.BigQuiet
import Derived.WalkSmall
import Derived.Laws.Rows
import Derived.Test.YtmlhnnmelopleaaGreatDoorPa45
import Derived.Test.YtmlhnnmelopleaaGreatDoorPa44
import Derived.Test.YtmlhnnmelopleaaGreatDoorPa30
import Derived.Test.YtmlhnnmelopleaaGreatDoorPa17
import Derived.Test.YtmlhnnmelopleaaGreatDoorPa04
import Derived.Deep.Cut
namespace Go.Proofs.YtmlhnnmelopleaaGreatDoor
open Go.RowKit

def KdP (kd : Int) (n : Nat) (c : Int) : Prop := (kd = 1 ∧ c = 1) ∨ (kd = 2 ∧ c = 2) ∨ (kd = 3 ∧ (c = 3 ∨ (c = 4 ∧ 3 < n)))
theorem spot_kind {text : List Int} {ent : Int} {H : Int → Nat} {n p : Nat} (h : (spotN text ent H n p).1 ≠ 0) : KdP (kindN (cutN text p n)) n (spotN text ent H n p).1 := by
  have hk := kind_in (cutN text p n)
  unfold spotN at h ⊢
  generalize kindN (cutN text p n) = kd at *
  by_cases c0 : inB text ent n p = false ∨ kd = 0
  · rw [if_pos c0] at h; exact absurd rfl h
  · rw [if_neg c0] at h ⊢
    by_cases c1 : kd ≠ 3
    · rw [if_pos c1] at h ⊢
      rcases hk with e | e | e | e
      · exact absurd (.inr e) c0
      · exact .inl ⟨e, e⟩
      · exact .inr (.inl ⟨e, e⟩)
      · exact absurd e c1
    · rw [if_neg c1] at h ⊢
      have e3 : kd = 3 := by omega
      split at h
      · exact .inr (.inr ⟨e3, by rw [if_pos (by assumption)]; exact .inl rfl⟩)
      · rw [if_neg (by assumption)]
        split at h
        · rename_i h4
          rw [if_pos h4]
          exact .inr (.inr ⟨e3, .inr ⟨rfl, h4.1⟩⟩)
        · exact absurd rfl h
theorem spots_kind (text : List Int) (ent : Int) (H : Int → Nat) (n : Nat) (kd : Int) : ∀ (P : List Int), (∀ p ∈ P, kindN (cutN text p.toNat n) = kd) → ∀ s ∈ spotsN text ent H n P, KdP kd n s.2.1
  | [], _, s, hs => by cases hs
  | p :: P, h, s, hs => by
    have ih := spots_kind text ent H n kd P fun q hq => h q (List.mem_cons_of_mem _ hq)
    have hs : s ∈ (if (spotN text ent H n p.toNat).1 = 0 then spotsN text ent H n P else (p, spotN text ent H n p.toNat) :: spotsN text ent H n P) := hs
    by_cases e : (spotN text ent H n p.toNat).1 = 0
    · rw [if_pos e] at hs; exact ih s hs
    · rw [if_neg e] at hs
      rcases List.mem_cons.1 hs with rfl | hs
      · have := spot_kind e
        rw [h p (List.mem_cons_self ..)] at this
        exact this
      · exact ih s hs
theorem kd_alike {kd c d : Int} {n : Nat} (hn : 2 ≤ n) (h : KdP kd n c) (k : KdP kd n d) : ∃ (S : Int) (x y : Bool), decide ((n : Int) ≤ costN c) = false ∧ decide (costN c < 1) = false ∧ sizeN c n = S ∧ sizeN d n = S ∧ (c == 1) = x ∧ (d == 1) = x ∧ (c == 2) = y ∧ (d == 2) = y := by
  have hn0 : ¬ (n : Int) < 1 := by omega
  have z1 : sizeN 1 n = n := by unfold sizeN; rw [if_neg hn0]; simp
  have z2 : sizeN 2 n = n := by unfold sizeN; rw [if_neg hn0]; simp
  have z3 : sizeN 3 n = n + 1 := by unfold sizeN; rw [if_neg hn0]; simp
  have z4 : sizeN 4 n = n + 1 := by unfold sizeN; rw [if_neg hn0]; simp
  have q1 : costN 1 = 1 := by decide
  have q2 : costN 2 = 1 := by decide
  have q3 : costN 3 = 1 := by decide
  have q4 : costN 4 = 3 := by decide
  unfold KdP at h k
  rcases h with ⟨e, rfl⟩ | ⟨e, rfl⟩ | ⟨e, rfl | ⟨rfl, h4⟩⟩
  · obtain rfl : d = 1 := by omega
    exact ⟨n, true, false, by rw [q1]; exact decide_eq_false (by omega), by rw [q1]; rfl, z1, z1, rfl, rfl, rfl, rfl⟩
  · obtain rfl : d = 2 := by omega
    exact ⟨n, false, true, by rw [q2]; exact decide_eq_false (by omega), by rw [q2]; rfl, z2, z2, rfl, rfl, rfl, rfl⟩
  · have hd : d = 3 ∨ d = 4 := by omega
    rcases hd with rfl | rfl
    · exact ⟨n + 1, false, false, by rw [q3]; exact decide_eq_false (by omega), by rw [q3]; rfl, z3, z3, rfl, rfl, rfl, rfl⟩
    · exact ⟨n + 1, false, false, by rw [q3]; exact decide_eq_false (by omega), by rw [q3]; rfl, z3, z4, rfl, rfl, rfl, rfl⟩
  · have hd : d = 3 ∨ d = 4 := by omega
    rcases hd with rfl | rfl
    · exact ⟨n + 1, false, false, by rw [q4]; exact decide_eq_false (by omega), by rw [q4]; rfl, z4, z3, rfl, rfl, rfl, rfl⟩
    · exact ⟨n + 1, false, false, by rw [q4]; exact decide_eq_false (by omega), by rw [q4]; rfl, z4, z4, rfl, rfl, rfl, rfl⟩
set_option maxRecDepth 100000 in
set_option maxHeartbeats 16000000 in
theorem lawAlike (A1 A2 : Option Addr) (c1 c2 : Nat) (ent : Int) (text mem : List Int) (n : Int) (A : Option Addr) (cP : Nat) (P : List Int) (w : World) (hTz : Tz w) (hT : IntsAt w A1 .u32 text) (hM : IntsAt w A2 .i64 mem) (hR : ∀ i, i < text.length → 0 ≤ nth text i ∧ nth text i < 4294967296) (h01 : A1 = none → c1 = 0) (h02 : A2 = none → c2 = 0) (hP : IntsAt w A .i64 P) (h03 : A = none → cP = 0) (hPr : ∀ i, i < P.length → nth P i ≤ 9223372036854775807) :
    Calls Tryz.prog 5 #[.agg #[.slice A1 text.length c1, .int .i64 ent, .slice A2 mem.length c2], .int .i64 n, .slice A P.length cP] w fun e w' => e = .returned (.bool true) ∧ Below w.heap.size w w' := by
  obtain ⟨W, HW⟩ : ∃ W, Hid (w.alloc (.cells #[.slice A1 text.length c1, .int .i64 ent, .slice A2 mem.length c2] 31) = W) := ⟨_, rfl⟩
  have HB : Hid (Below w.heap.size w W) := by unfold Hid; rw [← HW.out]; exact lb_alloc (Below.refl _ _) _
  have i0 : W.cell? ⟨w.heap.size, 0, none⟩ = some (.slice A1 text.length c1) := by rw [← HW.out]; simp [go_sem]
  have i1 : W.cell? ⟨w.heap.size, 1, none⟩ = some (.int .i64 ent) := by rw [← HW.out]; simp [go_sem]
  have i2 : W.cell? ⟨w.heap.size, 2, none⟩ = some (.slice A2 mem.length c2) := by rw [← HW.out]; simp [go_sem]
  have HTz : Hid (Tz w) := hTz
  have HT : Hid (IntsAt w A1 .u32 text) := hT
  have HM : Hid (IntsAt w A2 .i64 mem) := hM
  have HR : Hid (∀ i, i < text.length → 0 ≤ nth text i ∧ nth text i < 4294967296) := hR
  have HP : Hid (IntsAt w A .i64 P) := hP
  have HPr : Hid (∀ i, i < P.length → nth P i ≤ 9223372036854775807) := hPr
  have CM := much_any A1 A2 c1 c2 ent text mem W
  clear hTz hT hM hR hP hPr
  go_enter Tryz.func5, Tryz.ntmps5
  go_upto_region 1 with fail
  rw [HW.out]
  clear HW
  go_wp2_with fail
  refine CM.mono ?_
  rintro e w1 ⟨rfl, hb1⟩
  have HB1 : Hid (Below w.heap.size w w1) := lb_trans HB.out hb1
  have j0 := lkeep hb1 i0
  have j1 := lkeep hb1 i1
  have j2 := lkeep hb1 i2
  have CW1 := fun wx (hb : Below w.heap.size w wx) => works_any wx (HTz.out.below hb)
  clear CM hb1 i0 i1 i2 HB
  by_cases hmu : muchB text mem = true ∨ 600 < P.length
  · have hB1 := HB1.out
    by_cases hm1 : muchB text mem = true
    · rw [hm1]
      go_wp2_with (go_at_call 6; refine (CW1 _ hB1).mono ?_; rintro e w2 ⟨rfl, hb2⟩)
      go_ret
      exact ⟨rfl, lb_trans hB1 hb2⟩
    · have hm2 : muchB text mem = false := by simpa using hm1
      have hP5 : 600 < P.length := hmu.resolve_left hm1
      have hP6 : (600 : Int) < (P.length : Int) := by omega
      rw [hm2]
      go_wp2_with (go_at_call 6; refine (CW1 _ hB1).mono ?_; rintro e w2 ⟨rfl, hb2⟩)
      go_ret
      exact ⟨rfl, lb_trans hB1 hb2⟩
  have hm1 : muchB text mem = false := by
    cases h : muchB text mem with
    | false => rfl
    | true => exact absurd (.inl h) hmu
  have hPl : P.length ≤ 600 := by
    have h : ¬ 600 < P.length := fun h => hmu (.inr h)
    omega
  have hP6 : decide ((600 : Int) < (P.length : Int)) = false := decide_eq_false (by omega)
  have hm2 := hm1
  unfold muchB at hm2
  rw [Bool.or_eq_false_iff, decide_eq_false_iff_not, decide_eq_false_iff_not] at hm2
  obtain ⟨htl, hml⟩ := hm2
  rw [hm1]
  clear hmu hm1
  have CI := copyimg_any A1 A2 c1 c2 text mem ent w1 (HT.out.keep HB1.out) (HM.out.keep HB1.out) h01 h02 (by omega) (by omega)
  go_upto_region 3 with fail
  go_wp2_with fail
  refine CI.mono ?_
  rintro e w2 ⟨B1, B2, k1, k2, rfl, hRI, hb2⟩
  have HB2 : Hid (Below w.heap.size w w2) := lb_trans HB1.out hb2
  have HRI : Hid (RowsI w2 w1.heap.size B1 B2 k1 k2 text mem) := hRI
  have CN := copyints_any A cP P w2 (HP.out.keep HB2.out) h03 (by omega)
  clear hRI hb2 CI
  go_wp2_with fail
  refine CN.mono ?_
  rintro e w3 ⟨O, k, rfl, hown, hg, hn⟩
  have hb3 : Below w2.heap.size w2 w3 := below_grow (Below.refl _ _) hg
  have HB3 : Hid (Below w.heap.size w w3) := lb_trans HB2.out hb3
  rw [zNews_vals] at hown
  have HO : Hid (IntsAt w3 O .i64 P) := row_ints hown
  have hPk : P.length ≤ k := own_cap hown
  have hRI3 := HRI.out.keep hb3
  have htk : text.length ≤ k1 := own_cap hRI3.r1
  have C := spotsof_any B1 B2 k1 mem.length k2 ent text n O k P w3 (HTz.out.below HB3.out) (row_ints hRI3.r1) HR.out htk (by omega) (by omega) HO.out (by omega) hPk HPr.out
  clear hown hg hn hb3 hRI3 HRI CN
  go_wp2_with fail
  refine C.mono ?_
  rintro e w4 ⟨hb4, ⟨hE, rfl⟩ | ⟨hE, hO, rfl⟩ | ⟨hE, hO, H, A4, c4, hG, rfl, hS⟩⟩
  · have hne : ((checkI text mem.length ent).1 != 0) = true := by simpa using hE
    have HB4 : Hid (Below w.heap.size w w4) := lb_trans HB3.out hb4
    have CW := CW1 w4 HB4.out
    clear hE hb4 C CW1
    generalize (checkI text mem.length ent).1 = E at *
    go_wp2_with (go_at_call 6; refine CW.mono ?_; rintro e w5 ⟨rfl, hb5⟩)
    go_ret
    exact ⟨rfl, lb_trans HB4.out hb5⟩
  · have HB4 : Hid (Below w.heap.size w w4) := lb_trans HB3.out hb4
    have CW := CW1 w4 HB4.out
    clear hE hO hb4 C CW1
    go_wp2_with (go_at_call 6; refine CW.mono ?_; rintro e w5 ⟨rfl, hb5⟩)
    go_ret
    exact ⟨rfl, lb_trans HB4.out hb5⟩
  · have HB4 : Hid (Below w.heap.size w w4) := lb_trans HB3.out hb4
    obtain ⟨o1, o2, o3⟩ := hO
    obtain ⟨f1, f2, f3⟩ := fit_yes (o2 0 o1)
    obtain ⟨nn, rfl⟩ : ∃ nn : Nat, n = (nn : Int) := ⟨n.toNat, by omega⟩
    have hn2 : 2 ≤ nn := by omega
    have hn3 : (nn : Int) ≤ 600 := by omega
    have HK : Hid (∀ s ∈ spotsN text ent H nn P, KdP (kindN (cutN text (nth P 0).toNat nn)) nn s.2.1) := spots_kind text ent H nn _ P fun p hp => by
      obtain ⟨i, hi, rfl⟩ := mem_nth hp
      cases i with
      | zero => rfl
      | succ i => rw [show cutN text (nth P (i + 1)).toNat nn = cutN text (nth P 0).toNat nn from (o3 i hi).2.1]
    have hLl := spots_len text ent H nn P
    have hS : SpAt w4 A4 (spotsN text ent H nn P) := hS
    rw [show ((nn : Int)).toNat = nn from rfl]
    clear o1 o2 o3 f1 f2 f3 hG hE hb4 C
    generalize spotsN text ent H nn P = L at *
    generalize kindN (cutN text (nth P 0).toNat nn) = kd at *
    have HS : Hid (SpAt w4 A4 L) := hS
    have CWh : Hid (∀ wx, Below w.heap.size w wx → Calls Tryz.prog 6 #[] wx fun e w' => e = .returned (.bool true) ∧ Below wx.heap.size wx w') := CW1
    clear hS CW1
    go_wp2
    go_loopw [9] (fun i wr => ∃ j : Nat, i = .int .i64 (j : Int) ∧ j ≤ L.length ∧ Hid (Below w4.heap.size w4 wr)) (fun i _ => L.length - (intOf i).toNat)
    case atStart => exact ⟨0, rfl, Nat.zero_le _, Below.refl _ _⟩
    case round =>
      obtain ⟨j, rfl, hj, HBr⟩ := hrel
      by_cases hlt : j < L.length
      · have hlt' : (j : Int) < (L.length : Int) := by omega
        have h0' : (0 : Int) < (L.length : Int) := by omega
        obtain ⟨x, ex, d0, d1, d2⟩ := (HS.out.keep HBr.out) j hlt
        subst ex
        obtain ⟨x', ex, g0, g1, g2⟩ := (HS.out.keep HBr.out) 0 (by omega)
        obtain rfl := Option.some.inj ex
        rw [show x.add (0 * 3) = x by simp [Addr.add]] at g1
        have d1 : wr.cell? ⟨(x.add (j * 3)).block, (x.add (j * 3)).off + 1, none⟩ = some (.int .i8 (spt L j).2.1) := d1
        have g1 : wr.cell? ⟨x.block, x.off + 1, none⟩ = some (.int .i8 (spt L 0).2.1) := g1
        obtain ⟨S, bx, by', a1, a2, a3, a4, a5, a6, a7, a8⟩ := kd_alike hn2 (HK.out _ (spt_mem hlt)) (HK.out _ (spt_mem (k := 0) (by omega)))
        clear d0 d2 g0 g2 ex
        generalize (spt L j).2.1 = ci at *
        generalize (spt L 0).2.1 = c0 at *
        go_upto_region 9 with fail
        go_big_quiet ((first | (go_at_call 23; exact Calls.quiet_of_same (cost_any _ _)) | (go_at_call 24; exact Calls.quiet_of_same (size_any _ _ (by omega) _))))
        go_wp2
        go_roundw
        case rel => exact ⟨j + 1, by go_num, by omega, by first | exact below_drewN HBr.out _ | exact HBr⟩
        case measure => simp [intOf]; omega
      · obtain rfl : j = L.length := by omega
        have HBE : Hid (Below w.heap.size w wr) := lb_trans HB4.out HBr.out
        have CW := CWh.out wr HBE.out
        go_wp2_with (go_at_call 6; refine CW.mono ?_; rintro e w5 ⟨rfl, hb5⟩)
        go_ret
        exact ⟨rfl, lb_trans HBE.out hb5⟩

end Go.Proofs.YtmlhnnmelopleaaGreatDoor
