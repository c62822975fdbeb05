/-
  The walk of SymbolBinds.
-/
import Derived.Test.YtiihfkjgdhfmiaaProg
import Derived.WalkKit
import Derived.WalkSpells
import Derived.WalkLawsBesides
import Derived.RowKit3
import Derived.Below
import Derived.Deep.QuietTactic
import Derived.BigQuiet
import Derived.WalkSmall
import Derived.Laws.Rows
import Derived.Test.YtiihfkjgdhfmiaaSB16
import Derived.Test.YtiihfkjgdhfmiaaSB19
import Derived.Deep.RegionHeld3
import Derived.Deep.DeepCutAuto
import Derived.Deep.RegionWith
namespace Go.Proofs.Ytiihfkjgdhfmiaa
open Go.RowKit

set_option maxHeartbeats 16000000 in
set_option maxRecDepth 100000 in
theorem lawBinds (R : ProgR) (F : ProgF) (A : Option Addr) (ca : Nat) (q : Nat → Pl) (l : List Ob) (pk : Int) (hp0 : 0 ≤ pk) (hp1 : pk ≤ 255) (w : World) (hA : ObsAt w A q l) (hO : ∀ i, i < l.length → OpenO w (q i) (ob l i)) :
    Calls Try.prog 4 #[.slice A l.length ca, .int .u8 pk] w fun e w' => e = .returned (.bool true) ∧ Below w.heap.size w w' := by
  have LV : Hid (∀ wx, Below w.heap.size w wx → Calls Try.prog 6 #[] wx fun e w' => e = .returned (.bool true) ∧ Below wx.heap.size wx w') := fun wx _ => lives_any R F wx
  have CH := heavy_any A ca q l w hA (fun i hi => (hO i hi).sy) (fun i hi => (hO i hi).light)
  have HA : Hid (ObsAt w A q l) := hA
  have HO : Hid (∀ i, i < l.length → OpenO w (q i) (ob l i)) := hO
  clear hA hO
  go_enter Try.func4, Try.ntmps4
  go_wp2_with fail
  refine CH.mono ?_
  rintro e w1 ⟨B, rfl, hB, hb1⟩
  have HBX : Hid (Below w.heap.size w w1) := hb1
  clear CH hb1
  cases B
  · obtain ⟨hf, hwt⟩ := hB rfl
    have HI : Hid (ObsIn w A q l) := ⟨HA.out, fun i hi => (HO.out i hi).inn (hwt i hi), hf⟩
    clear hB hwt
    by_cases hn : 8 < l.length
    · have hn' : (8 : Int) < (l.length : Int) := by omega
      go_wp2_with fail
      refine (LV.out _ HBX.out).mono ?_
      rintro e wd ⟨rfl, hbd⟩
      have HBd : Hid (Below w.heap.size w wd) := lb_trans HBX.out hbd
      clear hbd
      go_wp2
      go_ret
      exact ⟨rfl, HBd.out⟩
    · have hn' : ¬ (8 : Int) < (l.length : Int) := by omega
      have CP : Hid (∀ wx, Below w.heap.size w wx → Calls Try.prog 15 #[.slice A l.length ca] wx (CopyL l wx)) := fun wx hx => copyobs_any A ca q l wx (HI.out.keep hx) (fun i hi => (HO.out i hi).none)
      go_wp2_with fail
      refine (CP.out _ HBX.out).mono ?_
      rintro e w2 ⟨A2, c2, q2, rfl, o2, p2, hb2⟩
      have HB2 : Hid (Below w.heap.size w w2) := lb_trans HBX.out hb2
      have C3 := R A2 c2 q2 l w2 (copy_in HI.out o2 p2)
      clear o2 p2 hb2
      go_wp2_with fail
      refine C3.mono ?_
      rintro e w3 ⟨A3, c3, v3, rfl, r3, hb3⟩
      have HB3 : Hid (Below w.heap.size w w3) := lb_trans HB2.out hb3
      have HR3 : Hid (RowsAt w3 A3 (resL l)) := r3.all
      clear C3 r3 hb3 HB2 HBX
      cases hx : resE l with
      | some x =>
        have he : (x.1 != 0) = true := by
          have : ¬ x.1 = 0 := by
            unfold resE at hx
            cases hc : chkL l with
            | some y => rw [hc] at hx; cases hx; exact chkL_errs l _ hc
            | none => rw [hc] at hx; exact namL_errs l _ hx
          simpa using this
        have hl0 : resL l = [] := by unfold resL; rw [hx]
        have e1 : t1 (some x) = x.1 := rfl
        rw [hl0, e1]
        go_wp2_with fail
        refine (LV.out _ HB3.out).mono ?_
        rintro e wd ⟨rfl, hbd⟩
        have HBd : Hid (Below w.heap.size w wd) := lb_trans HB3.out hbd
        clear hbd
        go_wp2
        go_ret
        exact ⟨rfl, HBd.out⟩
      | none =>
        have HS : Hid (Res l) := res_ok hx
        rw [resL_ok HS.out, rowsT_len]
        have HD : Hid (RowsAt w3 A3 (rowsT l l.length)) := by rw [← resL_ok HS.out]; exact HR3.out
        have e1 : t1 none = 0 := rfl
        rw [e1]
        clear e1 HR3 hx
        go_wp2
        go_loopw [9] (fun i wr => ∃ k : Nat, i = .int .i64 k ∧ k ≤ l.length ∧ Hid (Below w.heap.size w wr) ∧ Hid (Below w3.heap.size w3 wr)) (fun i _ => l.length - (intOf i).toNat)
        case atStart => exact ⟨0, rfl, Nat.zero_le _, HB3, Below.refl _ _⟩
        case round =>
          obtain ⟨k, rfl, hk, HB, HK⟩ := hrel
          by_cases hkl : k < l.length
          · have hkl' : (k : Int) < (l.length : Int) := by omega
            obtain ⟨a, ea, x0, x1, x2, x3, x4, x5⟩ := HA.out.six HB.out k hkl
            obtain ⟨b, P, cp, eb, y0, -⟩ := d_at (HD.out.keep HK.out) hkl
            have hss := (HI.out.each k hkl).hs
            subst ea
            subst eb
            go_wp2
            go_quiet (fail)
            have HB4 : Hid (Below w.heap.size w (wr.drewN nq)) := below_drewN HB.out _
            have HK4 : Hid (Below w3.heap.size w3 (wr.drewN nq)) := below_drewN HK.out _
            clear x0 x1 x2 x3 x4 x5 y0
            generalize wr.drewN nq = wz at HB4 HK4 ⊢
            go_wp2
            go_loopw [10] (fun i wr => ∃ j : Nat, i = .int .i64 j ∧ j ≤ (ob l k).ss.length ∧ Hid (Below w.heap.size w wr) ∧ Hid (Below w3.heap.size w3 wr)) (fun i _ => (ob l k).ss.length - (intOf i).toNat)
            case atStart => exact ⟨0, rfl, Nat.zero_le _, HB4, HK4⟩
            case round =>
              clear HB4 HK4 HB HK
              obtain ⟨j, rfl, hj, HB, HK⟩ := hrel
              obtain ⟨a', ea, x0, x1, x2, x3, x4, x5⟩ := HA.out.six HB.out k hkl
              cases ea
              obtain ⟨b', P2, cp2, eb, y0, dj⟩ := d_at (HD.out.keep HK.out) hkl
              cases eb
              by_cases hjl : j < (ob l k).ss.length
              · have hjl' : (j : Int) < ((ob l k).ss.length : Int) := by omega
                obtain ⟨r, er, d0, d1⟩ := dj j hjl
                obtain ⟨x, y, es, hx1, hy0, hy1, hown, hfind⟩ := HS.out.stand hkl hjl
                rw [es] at d0 d1
                obtain ⟨a3, e3, s0, s1, s2⟩ := (HI.out.each k hkl).sy j hjl
                have t0 := lkeep HB.out s0
                have t1 : wr.cell? ⟨(a3.add (j * 3)).block, (a3.add (j * 3)).off + 1, none⟩ = some (.int .i8 (sKind (ob l k).ss j)) := lkeep HB.out s1
                have t2 : wr.cell? ⟨(a3.add (j * 3)).block, (a3.add (j * 3)).off + 2, none⟩ = some (.int .i64 (sAt (ob l k).ss j)) := lkeep HB.out s2
                rw [e3] at x4
                rw [er] at y0
                obtain ⟨W, hW⟩ : ∃ W, W = (wr.alloc (.cells #[.string (sName (ob l k).ss j), .int .i8 (sKind (ob l k).ss j), .int .i64 (sAt (ob l k).ss j)] 52)).alloc (.cells #[.int .i64 x, .int .i64 y] 34) := ⟨_, rfl⟩
                have hbW : Below wr.heap.size wr W := by rw [hW]; exact lb_alloc (lb_alloc (Below.refl _ _) _) _
                clear s0 s1 s2 e3 dj er es
                have y0' : (wr.alloc (.cells #[.string (sName (ob l k).ss j), .int .i8 (sKind (ob l k).ss j), .int .i64 (sAt (ob l k).ss j)] 52)).cell? (b.add k) = some (.slice (some r) (ob l k).ss.length cp2) := lkeep (lb_alloc (Below.refl _ _) _) y0
                have d0' : (wr.alloc (.cells #[.string (sName (ob l k).ss j), .int .i8 (sKind (ob l k).ss j), .int .i64 (sAt (ob l k).ss j)] 52)).cell? (r.add (j * 2)) = some (.int .i64 x) := lkeep (lb_alloc (Below.refl _ _) _) d0
                have d1' : (wr.alloc (.cells #[.string (sName (ob l k).ss j), .int .i8 (sKind (ob l k).ss j), .int .i64 (sAt (ob l k).ss j)] 52)).cell? ⟨(r.add (j * 2)).block, (r.add (j * 2)).off + 1, none⟩ = some (.int .i64 y) := lkeep (lb_alloc (Below.refl _ _) _) d1
                have HBW : Hid (Below w.heap.size w W) := lb_trans HB.out hbW
                have HKW : Hid (Below w3.heap.size w3 W) := lb_trans HK.out hbW
                go_wp2
                rw [← hW]
                obtain ⟨a'', ea, -, hcu, -, -, -, -⟩ := HA.out.six HBW.out x hx1
                obtain rfl := Option.some.inj ea
                clear ea
                have z0 : W.cell? ⟨wr.heap.size + 1, 0, none⟩ = some (.int .i64 x) := by rw [hW]; simp [go_sem]
                have z1 : W.cell? ⟨wr.heap.size + 1, 1, none⟩ = some (.int .i64 y) := by rw [hW]; simp [go_sem]
                have v0 : W.cell? ⟨wr.heap.size, 0, none⟩ = some (.string (sName (ob l k).ss j)) := by rw [hW]; simp [go_sem]
                have v1 : W.cell? ⟨wr.heap.size, 1, none⟩ = some (.int .i8 (sKind (ob l k).ss j)) := by rw [hW]; simp [go_sem]
                have v2 : W.cell? ⟨wr.heap.size, 2, none⟩ = some (.int .i64 (sAt (ob l k).ss j)) := by rw [hW]; simp [go_sem]
                have HFI : Hid _ := hfind
                have HOW : Hid _ := hown
                have HWr : Hid (wr.heap.size + 2 = W.heap.size) := by rw [hW]; simp [Hid]
                have g1 : decide ((x : Int) < 0) = false := decide_eq_false (by omega)
                have g2 : decide (l.length ≤ x) = false := decide_eq_false (by omega)
                have g3 : decide (y < 0) = false := decide_eq_false (by omega)
                have g4 : decide (((ob l x).code.length : Int) < y) = false := decide_eq_false (by omega)
                have hcx := (HI.out.each x hx1).hc
                clear x0 x1 x2 x3 x4 x5 y0 d0 d1 t0 t1 t2 y0' d0' d1' hbW hfind hown hW
                generalize (q x).A1 = P1 at hcu
                generalize (q x).c1 = C1 at hcu
                generalize (ob l x).code.length = N1 at hcu g4 hy1 hcx
                go_quiet (fail)
                have hq := below_drewN (Below.refl W.heap.size W) nq
                have HBq : Hid (Below w.heap.size w (W.drewN nq)) := below_drewN HBW.out _
                have HKq : Hid (Below w3.heap.size w3 (W.drewN nq)) := below_drewN HKW.out _
                have z0 := lkeep hq z0
                have z1 := lkeep hq z1
                have v0 := lkeep hq v0
                have v1 := lkeep hq v1
                have v2 := lkeep hq v2
                clear hcu g1 g2 g3 g4 hq
                generalize W.drewN nq = wz at HBq HKq z0 z1 v0 v1 v2 ⊢
                obtain ⟨Y, hY⟩ : ∃ Y, Y = wz.alloc (.cells #[.int .i64 k, .int .i64 (sAt (ob l k).ss j)] 34) := ⟨_, rfl⟩
                have hq := lb_alloc (Below.refl wz.heap.size wz) (.cells #[.int .i64 k, .int .i64 (sAt (ob l k).ss j)] 34)
                rw [← hY] at hq
                have HBY : Hid (Below w.heap.size w Y) := lb_trans HBq.out hq
                have HKY : Hid (Below w3.heap.size w3 Y) := lb_trans HKq.out hq
                have HZ0 : Hid _ := lkeep hq z0
                have HZ1 : Hid _ := lkeep hq z1
                have HV0 : Hid _ := lkeep hq v0
                have HV1 : Hid _ := lkeep hq v1
                have HU0 : Hid (Y.cell? ⟨wz.heap.size, 0, none⟩ = some (.int .i64 k)) := by rw [Hid, hY]; simp [go_sem]
                have HU1 : Hid (Y.cell? ⟨wz.heap.size, 1, none⟩ = some (.int .i64 (sAt (ob l k).ss j))) := by rw [Hid, hY]; simp [go_sem]
                go_upto_region 21 with fail
                rw [← hY]
                clear hY hq z0 z1 v0 v1 v2 HBq HKq HBW HKW
                have v0 := HV0.out
                have hnS := (HI.out.each k hkl).hN j
                obtain ⟨fx, hfx⟩ : ∃ fx, fx = findF (sName (ob l k).ss j) l := ⟨_, rfl⟩
                have CF : ∀ (A4 : Option Addr) (c4 : Nat) (q4 : Nat → Pl) (w4 wx : World), ObsIn w4 A4 q4 l → Below w4.heap.size w4 wx → Calls Try.prog 10 #[.slice A4 l.length c4, .string (sName (ob l k).ss j)] wx (DefP fx wx) := fun A4 c4 q4 w4 wx h4 h5 => by rw [hfx]; exact F A4 c4 q4 l (sName (ob l k).ss j) wx (h4.keep h5) hnS
                have HFX : Hid (fx = findF (sName (ob l k).ss j) l) := hfx
                clear hfx
                go_cut [14, 15] (fun x y wx => ∃ p, x = .pointer (some ⟨p, 0, none⟩) ∧ y = .bool fx.isSome ∧ wx.cell? ⟨p, 0, none⟩ = some (.int .i64 (dfI fx)) ∧ wx.cell? ⟨p, 1, none⟩ = some (.int .i64 (dfA fx)) ∧ Hid (Below Y.heap.size Y wx))
                case first =>
                  have hYY := Below.refl Y.heap.size Y
                  go_region_held3 (fun W' => Below Y.heap.size Y W' ∧ W'.cell? ⟨wr.heap.size, 0, none⟩ = some (.string (sName (ob l k).ss j)))
                    (first
                      | (refine ⟨?_, lkeep ?_ v0⟩ <;> ((repeat (first | assumption | exact (‹Below _ _ _ ∧ _›).1 | apply Below.drew | apply lb_alloc)); done))
                      | (refine ⟨?_, lkeep ?_ v0⟩ <;> (refine Below.setCell (Below.setCell (by assumption) ?_ _) ?_ _ <;> first | exact Nat.le_refl _ | exact hb4'.size)))
                    (first
                      | (go_at_call 15; refine (CP.out _ (lb_trans HBY.out (by repeat (first | assumption | exact (‹Below _ _ _ ∧ _›).1 | apply Below.drew | apply lb_alloc)))).mono ?_; rintro e w4 ⟨A4, c4, q4, rfl, o4, p4, hb4⟩; have hin := copy_in HI.out o4 p4; clear o4 p4; have hb4' : Below Y.heap.size Y w4 := lb_trans (by repeat (first | assumption | exact (‹Below _ _ _ ∧ _›).1 | apply Below.drew | apply lb_alloc)) hb4; (first | (refine have_two Y.heap.size hb4 ?_ ?_; (constructor <;> (simp [go_sem]; done)); intro e0 e1 e2 e3) | skip))
                      | (go_at_call 10; refine (CF _ _ _ _ _ ‹ObsIn _ _ _ l› (by repeat (first | exact Below.refl _ _ | apply Below.drew | apply lb_alloc))).mono ?_; rintro e w5 ⟨rfl, hb5⟩; have hb5' : Below Y.heap.size Y w5 := lb_trans (by repeat (first | assumption | exact (‹Below _ _ _ ∧ _›).1 | apply Below.drew | apply lb_alloc)) hb5; (first | (refine have_two Y.heap.size hb5 ?_ ?_; (constructor <;> assumption); intro e4 e5 e6 e7) | skip); (first | (refine have_two w4.heap.size hb5 ?_ ?_; (constructor <;> (simp [go_sem]; done)); intro e8 e9 e10 e11) | skip)))
                  all_goals (rename_i hS'; have hB' := hS'.1; go_wp2_with fail; go_meet; refine ⟨_, rfl, rfl, ?_, ?_, hB'⟩ <;> first | (simp [go_sem]; done) | (simp [go_sem, *]; done))
                case rest =>
                  obtain ⟨p, rfl, rfl, r0, r1, HBc⟩ := hcut
                  clear CF v0
                  have z0 := lkeep HBc.out HZ0.out
                  have z1 := lkeep HBc.out HZ1.out
                  have v1 := lkeep HBc.out HV1.out
                  have u0 := lkeep HBc.out HU0.out
                  have u1 := lkeep HBc.out HU1.out
                  have HBr : Hid (Below w.heap.size w wc) := lb_trans HBY.out HBc.out
                  have HKr : Hid (Below w3.heap.size w3 wc) := lb_trans HKY.out HBc.out
                  clear HBY HKY HZ0 HZ1 HV0 HV1 HU0 HU1 HBc
                  by_cases h0 : sKind (ob l k).ss j = 0
                  · obtain ⟨rfl, rfl⟩ := HOW.out (Or.inl h0)
                    rw [h0] at v1
                    clear h0 HOW HFI HFX
                    go_wp2
                    go_roundw
                    case rel => exact ⟨j + 1, by go_num, by omega, HBr, HKr⟩
                    case measure => simp [intOf]; omega
                  · have ef : fx = some (x, y) := by rw [HFX.out]; exact HFI.out h0
                    have e1 : dfI (some (x, y)) = x := rfl
                    have e2 : dfA (some (x, y)) = y := rfl
                    have e3 : (some (x, y)).isSome = true := rfl
                    rw [ef, e1] at r0
                    rw [ef, e2] at r1
                    rw [ef, e3]
                    clear e1 e2 e3 ef HFX HFI
                    by_cases h1 : sKind (ob l k).ss j = 1
                    · obtain ⟨rfl, rfl⟩ := HOW.out (Or.inr h1)
                      rw [h1] at v1
                      clear h0 h1 HOW
                      go_wp2
                      go_roundw
                      case rel => exact ⟨j + 1, by go_num, by omega, HBr, HKr⟩
                      case measure => simp [intOf]; omega
                    · have g0 : (sKind (ob l k).ss j == 0) = false := by simpa using h0
                      have g1 : (sKind (ob l k).ss j == 1) = false := by simpa using h1
                      have g2 : (sKind (ob l k).ss j != 0) = true := by simpa using h0
                      clear h0 h1 HOW
                      go_wp2
                      go_roundw
                      case rel => exact ⟨j + 1, by go_num, by omega, HBr, HKr⟩
                      case measure => simp [intOf]; omega
              · have hjl' : ¬ (j : Int) < ((ob l k).ss.length : Int) := by omega
                obtain rfl : j = (ob l k).ss.length := by omega
                clear x0 x1 x2 x3 x4 x5 dj
                go_wp2
                go_roundw
                case rel => exact ⟨k + 1, by go_num, by omega, HB, HK⟩
                case measure => simp [intOf]; omega
          · have hkl' : ¬ (k : Int) < (l.length : Int) := by omega
            obtain rfl : k = l.length := by omega
            by_cases hl0 : l.length = 0
            · have hl0' : (l.length : Int) = 0 := by omega
              have HBX := HB
              have hz : ((l.length : Int) == 0) = true := by simpa using hl0
              go_wp2_with fail
              refine (LV.out _ HBX.out).mono ?_
              rintro e wd ⟨rfl, hbd⟩
              have HBd : Hid (Below w.heap.size w wd) := lb_trans HBX.out hbd
              clear hbd
              go_wp2
              go_ret
              exact ⟨rfl, HBd.out⟩
            · have hz : ((l.length : Int) == 0) = false := by simpa using hl0
              have hz2 : ¬ (32 : Int) ≤ (l.length : Int) := by omega
              go_upto_region 26 with fail
              obtain ⟨m, hm, hml⟩ : ∃ m : Nat, pk % (l.length : Int) = (m : Int) ∧ m < l.length := by
                have h1 := Int.emod_nonneg pk (show (l.length : Int) ≠ 0 by omega)
                have h2 := Int.emod_lt_of_pos pk (show (0 : Int) < (l.length : Int) by omega)
                exact ⟨(pk % (l.length : Int)).toNat, by omega, by omega⟩
              have hml' : (m : Int) < (l.length : Int) := by omega
              obtain ⟨i0, hi0, hq0, hq1, hq2⟩ := info65
              have hms := (HI.out.each m hml).hs
              go_wp2
              clear hm
              go_loopw [17] (fun i wr => ∃ k : Nat, i = .int .i64 k ∧ k ≤ (ob l m).ss.length ∧ Hid (Below w.heap.size w wr) ∧ Hid (Below w3.heap.size w3 wr)) (fun i _ => (ob l m).ss.length - (intOf i).toNat)
              case atStart => exact ⟨0, rfl, Nat.zero_le _, HB, HK⟩
              case round =>
                clear HB HK
                obtain ⟨k, rfl, hk2, HB, HK⟩ := hrel
                obtain ⟨a, ea, x0, x1, x2, x3, x4, x5⟩ := HA.out.six HB.out m hml
                subst ea
                clear x0 x1 x2 x3 x5
                by_cases hkl : k < (ob l m).ss.length
                · have hkl2 : (k : Int) < ((ob l m).ss.length : Int) := by omega
                  obtain ⟨a3, e3, s0, s1, s2⟩ := (HI.out.each m hml).sy k hkl
                  have t0 := lkeep HB.out s0
                  have t1 : wr.cell? ⟨(a3.add (k * 3)).block, (a3.add (k * 3)).off + 1, none⟩ = some (.int .i8 (sKind (ob l m).ss k)) := lkeep HB.out s1
                  rw [e3] at x4
                  by_cases hg : sKind (ob l m).ss k = 1
                  · have hg' : (sKind (ob l m).ss k != 1) = false := by simpa using hg
                    have HG : Hid (sKind (ob l m).ss k = 1) := hg
                    have HSN : Hid ((sName (ob l m).ss k).size ≤ 140737488355328) := (HI.out.each m hml).hN k
                    clear s0 s1 s2 hg
                    go_wp2_with fail
                    refine (CP.out _ HB.out).mono ?_
                    rintro e w4 ⟨A4, c4, q4, rfl, o4, p4, hb4⟩
                    have HB4 : Hid (Below w.heap.size w w4) := lb_trans HB.out hb4
                    have HK4 : Hid (Below w3.heap.size w3 w4) := lb_trans HK.out hb4
                    have y4 := lkeep hb4 x4
                    have y0 := lkeep hb4 t0
                    clear x4 t0 t1 hg'
                    obtain ⟨nm, hnm⟩ : ∃ nm, nm = sName (ob l m).ss k := ⟨_, rfl⟩
                    rw [← hnm] at y0
                    have HNM : Hid (nm = sName (ob l m).ss k) := hnm
                    clear hnm
                    obtain ⟨p, hp⟩ : ∃ p : Pl, p = ⟨none, none, some ⟨w4.heap.size, 0, none⟩, none, 0, 0, 1, 0⟩ := ⟨_, rfl⟩
                    obtain ⟨Wa, hWa⟩ : ∃ Wa, Wa = w4.alloc (.cells #[.string nm, .int .i8 3, .int .i64 0] 52) := ⟨_, rfl⟩
                    have hba : Below w4.heap.size w4 Wa := by rw [hWa]; exact lb_alloc (Below.refl _ _) _
                    have HWs : Hid (Wa.heap[w4.heap.size]? = some (.cells #[.string nm, .int .i8 3, .int .i64 0] 52 (0, 0))) := by rw [Hid, hWa]; exact heap_alloc_new _ _
                    obtain ⟨Wb, hWb⟩ : ∃ Wb, Wb = Wa.alloc (.cells #[.string moreN, .slice none 0 0, .int .i64 0, .slice none 0 0, .slice (some ⟨w4.heap.size, 0, none⟩) 1 1, .slice none 0 0] 49) := ⟨_, rfl⟩
                    have hbb : Below Wa.heap.size Wa Wb := by rw [hWb]; exact lb_alloc (Below.refl _ _) _
                    have hb4b : Below w4.heap.size w4 Wb := lb_trans hba hbb
                    have HRb : Hid (Wb.ownsRow wr.heap.size 49 6 (.slice A4 l.length c4) l.length (oN l q4 l.length)) := own_keep o4 hb4b
                    have HOb : Hid (∀ i, i < l.length → OwnO Wb wr.heap.size (q4 i) (ob l i)) := fun i hi => (p4 i hi).keep hb4b
                    have HPb : Hid (OwnO Wb wr.heap.size p (moreO nm)) := by
                      rw [Hid, hp]
                      exact more_own (blk_keep HWs.out hbb) hb4.size
                    have HNb : Hid (Wb.heap[Wa.heap.size]? = some (.cells #[.string moreN, .slice none 0 0, .int .i64 0, .slice none 0 0, .slice (some ⟨w4.heap.size, 0, none⟩) 1 1, .slice none 0 0] 49 (0, 0))) := by rw [Hid, hWb]; exact heap_alloc_new _ _
                    have HBb : Hid (Below wr.heap.size wr Wb) := lb_trans hb4 hb4b
                    clear hb4 o4 p4
                    have HBw : Hid (Below w.heap.size w Wb) := lb_trans HB.out HBb.out
                    have HKw : Hid (Below w3.heap.size w3 Wb) := lb_trans HK.out HBb.out
                    have HOC : Hid (obc (moreO nm) p = [.string moreN, .slice none 0 0, .int .i64 0, .slice none 0 0, .slice (some ⟨w4.heap.size, 0, none⟩) 1 1, .slice none 0 0]) := by rw [Hid, hp]; rfl
                    rw [hWb, hWa] at HRb HOb HPb HBb HBw HKw
                    rw [hWb] at HNb
                    have hWs : Wa.heap.size = w4.heap.size + 1 := by rw [hWa]; simp
                    rw [hWs, hWa] at HNb
                    clear hWb hWa hba hbb hb4b HWs hWs hp
                    go_wp2_with (at_builtin; go_loud (refine wpList_append_own _ rfl (.tmp 199) (.tmp 212) 22 rfl wr.heap.size 49 i0 (.agg #[.string ⟨#[]⟩, .slice none 0 0, .int .i64 0, .slice none 0 0, .slice none 0 0, .slice none 0 0]) 6 120 Try.underlying22 hi0 hq0 hq1 hq2 rfl (by decide) (.slice A4 l.length c4) l.length (oN l q4 l.length) rfl HRb.out ⟨w4.heap.size + 1, 0, none⟩ 1 1 (obc (moreO nm) p) rfl rfl (fun j u hu => World.news_of_block HNb.out j u (by rw [HOC.out] at hu; exact hu)) one_six (by unfold maxLen; omega) (by omega) HBb.out.size ?_; intro v5 w5 hown hgrow _; have HR5 : Hid (w5.ownsRow wr.heap.size 49 6 v5 (l.length + 1) (oN l q4 l.length ++ obc (moreO nm) p)) := hown; have HB5 : Hid (Below w.heap.size w w5) := HBw.out.grown hgrow HBw.out.size (fun b hb => Nat.le_trans HB.out.size (HRb.out.lt b hb).1); have HK5 : Hid (Below w3.heap.size w3 w5) := HKw.out.grown hgrow HKw.out.size (fun b hb => Nat.le_trans HK.out.size (HRb.out.lt b hb).1); have HO5 : Hid (∀ i, i < l.length → OwnO w5 wr.heap.size (q4 i) (ob l i)) := (fun i hi => (HOb.out i hi).other HRb.out hgrow); have HP5 : Hid (OwnO w5 wr.heap.size p (moreO nm)) := HPb.out.other HRb.out hgrow; clear hown hgrow))
                    obtain ⟨A5, c5, e5, -⟩ := own_any HR5.out
                    subst e5
                    have HI5 : Hid (ObsIn w5 A5 (updP q4 l.length p) (l ++ [moreO nm])) := more_obs HI.out (by omega) (by rw [HNM.out]; exact HSN.out) HR5.out HO5.out HP5.out
                    clear HR5 HO5 HP5 HRb HOb HPb HNb HBb HBw HKw HOC y4 y0 e3
                    go_loopw [19] (fun i wr => ∃ j : Nat, i = .int .i64 j ∧ j ≤ l.length ∧ Hid (∀ i, i < j → (ob l i).nm.toList ≠ moreN.toList) ∧ Hid (Below w.heap.size w wr) ∧ Hid (Below w3.heap.size w3 wr) ∧ Hid (Below w5.heap.size w5 wr)) (fun i _ => l.length - (intOf i).toNat)
                    case atStart => exact ⟨0, rfl, Nat.zero_le _, fun i hi => absurd hi (Nat.not_lt_zero _), HB5, HK5, Below.refl _ _⟩
                    case round =>
                      clear HB4 HK4 HB HK HB5 HK5
                      obtain ⟨j, rfl, hj, HN, HB, HK, HL⟩ := hrel
                      by_cases hjl : j < l.length
                      · have hjl' : (j : Int) < (l.length : Int) := by omega
                        obtain ⟨a', ea, x0, -⟩ := HA.out.six HB.out j hjl
                        obtain rfl := Option.some.inj ea
                        clear ea
                        cases hx : ((ob l j).nm.toList == ([111, 110, 101, 46, 109, 111, 114, 101, 46, 111, 98, 106, 101, 99, 116, 46, 104, 101, 114, 101, 95] : List UInt8))
                        · have HN2 : Hid (∀ i, i < j + 1 → (ob l i).nm.toList ≠ moreN.toList) := fun i hi => by
                            by_cases hij : i = j
                            · rw [hij]; exact fun e => by rw [e, moreN_list] at hx; simp at hx
                            · exact HN.out i (by omega)
                          go_wp2
                          go_roundw
                          case rel => exact ⟨j + 1, by go_num, by omega, HN2, HB, HK, HL⟩
                          case measure => simp [intOf]; omega
                        · go_wp2_with fail
                          refine (LV.out _ HB.out).mono ?_
                          rintro e wd ⟨rfl, hbd⟩
                          have HBd : Hid (Below w.heap.size w wd) := lb_trans HB.out hbd
                          clear hbd
                          go_wp2
                          go_ret
                          exact ⟨rfl, HBd.out⟩
                      · have hjl' : ¬ (j : Int) < (l.length : Int) := by omega
                        have hR' : Res (l ++ [moreO nm]) := by rw [HNM.out]; exact HS.out.more (by omega) hml hkl HG.out (fun i hi => HN.out i (by omega))
                        have hlen : (l ++ [moreO nm]).length = l.length + 1 := by simp
                        have C7 := R A5 c5 _ (l ++ [moreO nm]) wr (HI5.out.keep HL.out)
                        rw [hlen] at C7
                        go_wp2_with fail
                        refine C7.mono ?_
                        rintro e w7 ⟨A7, c7, v7, rfl, r7, hb7⟩
                        have HB7 : Hid (Below w.heap.size w w7) := lb_trans HB.out hb7
                        have HK7 : Hid (Below w3.heap.size w3 w7) := lb_trans HK.out hb7
                        have HD7 : Hid (RowsAt w7 A7 (rowsT (l ++ [moreO nm]) (l.length + 1))) := by
                          have := r7.all
                          rw [resL_ok hR', hlen] at this
                          exact this
                        rw [resL_ok hR', rowsT_len, hlen, ok_res hR']
                        have e1 : t1 none = 0 := rfl
                        rw [e1]
                        clear C7 r7 hb7 hR' hlen e1 HB HK HL
                        obtain ⟨a7, r7, k7, ea7, n0, n1, n2⟩ := c_new HS.out hml hkl HG.out (by rw [← HNM.out]; exact HD7.out)
                        obtain ⟨b, P, cp, eb, y0, dj⟩ := d_at (HD.out.keep HK7.out) hml
                        obtain ⟨r, er, d0, d1⟩ := dj k hkl
                        rw [er] at y0
                        subst ea7
                        subst eb
                        generalize standS l m k = st at n1 n2 d0 d1
                        have hi1 : (l.length : Int) < (l.length : Int) + 1 := by omega
                        have hi2 : ((l.length : Nat) : Int) < ((l.length + 1 : Nat) : Int) := by omega
                        have hi3 : l.length < l.length + 1 := by omega
                        have hwr : IntKind.i64.wrap ((l.length : Int) + 1) = (l.length : Int) + 1 := wrapI64 (by omega) (by omega)
                        clear dj er
                        go_upto_region 39 with fail
                        go_quiet (fail)
                        have HBz : Hid (Below w.heap.size w (w7.drewN nq)) := below_drewN HB7.out _
                        have HKz : Hid (Below w3.heap.size w3 (w7.drewN nq)) := below_drewN HK7.out _
                        have HDz : Hid (RowsAt (w7.drewN nq) (some a7) (rowsT (l ++ [moreO nm]) (l.length + 1))) := HD7.out.keep (below_drewN (Below.refl _ _) _)
                        clear n0 n1 n2 y0 d0 d1 HD7 HB7 HK7 hwr hi1 hi2 hi3
                        generalize w7.drewN nq = wz at HBz HKz HDz ⊢
                        go_wp2
                        go_loopw [24] (fun i wr => ∃ j : Nat, i = .int .i64 j ∧ j ≤ l.length ∧ Hid (Below w.heap.size w wr) ∧ Hid (Below w3.heap.size w3 wr) ∧ Hid (Below wz.heap.size wz wr)) (fun i _ => l.length - (intOf i).toNat)
                        case atStart => exact ⟨0, rfl, Nat.zero_le _, HBz, HKz, Below.refl _ _⟩
                        case round =>
                          clear HBz HKz
                          clear hjl hjl' hj HN
                          obtain ⟨j, rfl, hj, HB, HK, HL⟩ := hrel
                          by_cases hjl : j < l.length
                          · have hjl' : (j : Int) < (l.length : Int) := by omega
                            have hjl2 : (j : Int) < (l.length : Int) + 1 := by omega
                            have hjs := (HI.out.each j hjl).hs
                            obtain ⟨a8, R8, k8, ea, m0, -⟩ := c_old (HDz.out.keep HL.out) hjl
                            cases ea
                            obtain ⟨b8, P8, p8, eb, z0, -⟩ := d_at (HD.out.keep HK.out) hjl
                            cases eb
                            go_wp2
                            go_quiet (fail)
                            have HBy : Hid (Below w.heap.size w (wr.drewN nq)) := below_drewN HB.out _
                            have HKy : Hid (Below w3.heap.size w3 (wr.drewN nq)) := below_drewN HK.out _
                            have HLy : Hid (Below wz.heap.size wz (wr.drewN nq)) := below_drewN HL.out _
                            clear m0 z0
                            generalize wr.drewN nq = wy at HBy HKy HLy ⊢
                            go_wp2
                            go_loopw [25] (fun i wr => ∃ h : Nat, i = .int .i64 h ∧ h ≤ (ob l j).ss.length ∧ Hid (Below w.heap.size w wr) ∧ Hid (Below w3.heap.size w3 wr) ∧ Hid (Below wz.heap.size wz wr)) (fun i _ => (ob l j).ss.length - (intOf i).toNat)
                            case atStart => exact ⟨0, rfl, Nat.zero_le _, HBy, HKy, HLy⟩
                            case round =>
                              clear HB HK HL HBy HKy HLy
                              obtain ⟨h, rfl, hh, HB, HK, HL⟩ := hrel
                              obtain ⟨a8, R8, k8, ea, m0, mj⟩ := c_old (HDz.out.keep HL.out) hjl
                              cases ea
                              obtain ⟨b8, P8, p8, eb, z0, dj⟩ := d_at (HD.out.keep HK.out) hjl
                              cases eb
                              by_cases hhl : h < (ob l j).ss.length
                              · have hhl' : (h : Int) < ((ob l j).ss.length : Int) := by omega
                                obtain ⟨r8, er8, m1, m2⟩ := mj h hhl
                                obtain ⟨r9, er9, z1, z2⟩ := dj h hhl
                                rw [er8] at m0
                                rw [er9] at z0
                                generalize standS l j h = st at m1 m2 z1 z2
                                clear mj dj er8 er9
                                go_wp2
                                go_quiet (fail)
                                have HBy : Hid (Below w.heap.size w (wr.drewN nq)) := below_drewN HB.out _
                                have HKy : Hid (Below w3.heap.size w3 (wr.drewN nq)) := below_drewN HK.out _
                                have HLy : Hid (Below wz.heap.size wz (wr.drewN nq)) := below_drewN HL.out _
                                go_wp2
                                go_roundw
                                case rel => exact ⟨h + 1, by go_num, by omega, HBy, HKy, HLy⟩
                                case measure => simp [intOf]; omega
                              · have hhl' : ¬ (h : Int) < ((ob l j).ss.length : Int) := by omega
                                clear mj dj m0
                                go_wp2
                                go_roundw
                                case rel => exact ⟨j + 1, by go_num, by omega, HB, HK, HL⟩
                                case measure => simp [intOf]; omega
                          · have hjl' : ¬ (j : Int) < (l.length : Int) := by omega
                            go_wp2
                            go_roundw
                            case rel => exact ⟨k + 1, by go_num, by omega, HB, HK⟩
                            case measure => simp [intOf]; omega
                  · have hg' : (sKind (ob l m).ss k != 1) = true := by simpa using hg
                    clear hg
                    go_wp2
                    go_roundw
                    case rel => exact ⟨k + 1, by go_num, by omega, HB, HK⟩
                    case measure => simp [intOf]; omega
                · have hkl2 : ¬ (k : Int) < ((ob l m).ss.length : Int) := by omega
                  go_wp2_with fail
                  refine (LV.out _ HB.out).mono ?_
                  rintro e wd ⟨rfl, hbd⟩
                  have HBd : Hid (Below w.heap.size w wd) := lb_trans HB.out hbd
                  clear hbd
                  go_wp2
                  go_ret
                  exact ⟨rfl, HBd.out⟩
  · clear hB
    go_wp2_with fail
    refine (LV.out _ HBX.out).mono ?_
    rintro e wd ⟨rfl, hbd⟩
    have HBd : Hid (Below w.heap.size w wd) := lb_trans HBX.out hbd
    clear hbd
    go_wp2
    go_ret
    exact ⟨rfl, HBd.out⟩

end Go.Proofs.Ytiihfkjgdhfmiaa
