/-
  Whether places are one sequence's. Which class is the first that fits (plain).
-/
import Derived.Test.YtmlhnnmelopleaaGreatDoorProg
import Derived.WalkKit
import Derived.WalkSpells
import Derived.WalkLawsBesides
import Derived.RowKit3
import Derived.Below
import Derived.Deep.QuietTactic
import Derived.BigQuiet
import Derived.WalkSmall
import Derived.Laws.Rows
import Derived.Test.YtmlhnnmelopleaaGreatDoorPs13
import Derived.Test.YtmlhnnmelopleaaGreatDoorPs16
import Derived.Test.YtmlhnnmelopleaaGreatDoorPs03
import Derived.Deep.Cut
import Derived.Deep.RegionHeld3
import Derived.Test.YtmlhnnmelopleaaGreatDoorPs12
namespace Go.Proofs.YtmlhnnmelopleaaGreatDoor
open Go.RowKit

theorem sleqw_any (A B : Option Addr) (ca cb : Nat) (zs ys : List Int) (w : World) (hA : IntsAt w A .u32 zs) (hB : IntsAt w B .u32 ys) (hz : zs.length ≤ 1048576) :
    Calls Tryz.prog 56 #[.slice A zs.length ca, .slice B ys.length cb] w fun e w' => e = .returned (.bool (decide (zs = ys))) ∧ Below w.heap.size w w' := by
  by_cases hl : zs.length = ys.length
  · have hl' : ((zs.length : Int) != (ys.length : Int)) = false := by rw [hl]; simp
    have HL : Hid (zs.length = ys.length) := hl
    clear hl
    go_enter Tryz.func56, Tryz.ntmps56
    go_wp2
    go_loopw [13] (fun i wr => ∃ (k m : Nat), i = .int .i64 k ∧ k ≤ zs.length ∧ wr = w.drewN m ∧ Hid (zs.take k = ys.take k)) (fun i _ => zs.length - (intOf i).toNat)
    case atStart => exact ⟨0, 0, rfl, by omega, rfl, by simp [Hid]⟩
    case round =>
      obtain ⟨k, m, rfl, hk, rfl, HT⟩ := hrel
      by_cases hlt : k < zs.length
      · obtain ⟨a, rfl, c1⟩ := hA k hlt
        obtain ⟨b, rfl, c2⟩ := hB k (by have := HL.out; omega)
        have hlt2 : (k : Int) < (ys.length : Int) := by have := HL.out; omega
        by_cases he : nth zs k = nth ys k
        · have HE : Hid (nth zs k = nth ys k) := he
          have he' : (nth zs k != nth ys k) = false := by simpa using he
          clear he
          go_wp2_with fail
          go_quiet (fail)
          go_wp2
          go_roundw
          case rel => exact ⟨k + 1, _, by go_num, by omega, rfl, take_same HT.out hlt (by omega) HE.out⟩
          case measure => simp [intOf]; omega
        · have HE : Hid (¬ nth zs k = nth ys k) := he
          have he' : (nth zs k != nth ys k) = true := by simpa using he
          clear he
          go_wp2_with fail
          go_quiet (fail)
          go_wp2
          go_ret
          exact ⟨retB (decide_eq_false (nth_ne HE.out)).symm, below_drewN (below_drewN (Below.refl _ _) _) _⟩
      · have hlt' : ¬ (k : Int) < (zs.length : Int) := by omega
        go_wp2
        go_ret
        exact ⟨retB (decide_eq_true (take_all HT.out (by omega) HL.out)).symm, below_drewN (Below.refl _ _) _⟩
  · have hl' : ((zs.length : Int) != (ys.length : Int)) = true := by simp; omega
    have HL : Hid (¬ zs.length = ys.length) := hl
    clear hl
    go_enter Tryz.func56, Tryz.ntmps56
    go_wp2
    go_ret
    exact ⟨retB (decide_eq_false (fun h => HL.out (by rw [h]))).symm, Below.refl _ _⟩
/-- May these places be one sequence's? -/
def OneP (text : List Int) (n : Int) (P : List Int) : Prop := 0 < P.length ∧ (∀ i, i < P.length → fitB text n (nth P i) = true) ∧ ∀ i, i + 1 < P.length → nth P i < nth P (i + 1) ∧ cutN text (nth P (i + 1)).toNat n.toNat = cutN text (nth P 0).toNat n.toNat ∧ hasN (alW (cutN text (nth P 0).toNat n.toNat)) n.toNat = false
def IsoP (text : List Int) (n : Int) (P : List Int) (w : World) (e : Ending) (w' : World) : Prop := (∃ b : Bool, e = .returned (.bool b) ∧ (b = true ↔ OneP text n P)) ∧ Below w.heap.size w w'
theorem iso_no {text : List Int} {n : Int} {P : List Int} {w w' : World} (h : ¬ OneP text n P) (hb : Below w.heap.size w w') : ∀ e, e = .returned (.bool false) → IsoP text n P w e w' := fun _ he => ⟨⟨false, he, ⟨(fun h2 => absurd h2 (by decide)), (fun h2 => absurd h2 h)⟩⟩, hb⟩
def tlI (X : Addr) (c : Nat) : Addr := if c = 1 then X else X.add 1
theorem tailI_run (X : Addr) (n c : Nat) (h0 : 0 < n) (_h : n ≤ c) (w : World) : (Instr.slice 32 (.slice (some X) n c) (some (.int .i64 1)) none none).run Tryz.prog w = .ok (.slice (some (tlI X c)) (n - 1) (c - 1)) w := by
  rw [run_slice_l (P := Tryz.prog) w 32 (some X) n c (by kernel_rfl) .i64 1 (by omega) (by omega)]
  rw [show (sizeOf (Tryz.prog.elem 32)).run Tryz.prog w = .ok 1 w by kernel_rfl]
  show Result.ok (sliced (some X) 1 n c 1) w = _
  unfold sliced tlI
  by_cases e : c = 1
  · rw [if_pos e, if_pos e]
  · rw [if_neg e, if_neg e]; rfl
theorem fit_yes {text : List Int} {n p : Int} (h : fitB text n p = true) : 2 ≤ n ∧ 0 ≤ p ∧ p + n ≤ (text.length : Int) := by simpa [fitB] using h
set_option maxRecDepth 100000 in
set_option maxHeartbeats 16000000 in
theorem isone_any (B : Nat) (a1 : Addr) (A2 Ab : Option Addr) (c1 ml c2 cb : Nat) (ent : Int) (text : List Int) (n : Int) (A : Option Addr) (cP : Nat) (P : List Int) (w : World) (hX : TxAt w B a1 A2 Ab c1 ml c2 cb ent text) (hR : ∀ i, i < text.length → 0 ≤ nth text i ∧ nth text i < 4294967296) (hl : text.length ≤ 16384) (hc : text.length ≤ c1) (hP : IntsAt w A .i64 P) (hPl : P.length ≤ 1048576) (hPc : P.length ≤ cP) (hPr : ∀ i, i < P.length → nth P i ≤ 9223372036854775807) :
    Calls Tryz.prog 35 #[.pointer (some ⟨B, 0, none⟩), .agg #[.int .i64 n, .slice A P.length cP]] w (IsoP text n P w) := by
  by_cases h0 : P.length = 0
  · have HE : Hid (∀ w', Below w.heap.size w w' → ∀ e, e = .returned (.bool false) → IsoP text n P w e w') := fun w' hb => iso_no (fun h => by have := h.1; omega) hb
    obtain rfl : P = [] := List.eq_nil_of_length_eq_zero h0
    clear hP hPr hR hPc hPl h0

    obtain ⟨X, HX⟩ : ∃ X, Hid (w.alloc (.cells #[.int .i64 n, .slice A 0 cP] 43) = X) := ⟨_, rfl⟩
    have HB : Hid (Below w.heap.size w X) := by unfold Hid; rw [← HX.out]; exact lb_alloc (Below.refl _ _) _
    have x0 : X.cell? ⟨w.heap.size, 0, none⟩ = some (.int .i64 n) := by rw [← HX.out]; simp [go_sem]
    have x1 : X.cell? ⟨w.heap.size, 1, none⟩ = some (.slice A 0 cP) := by rw [← HX.out]; simp [go_sem]

    go_enter Tryz.func35, Tryz.ntmps35
    go_upto_region 1 with fail
    rw [HX.out]
    clear HX
    go_big_quiet (fail)
    go_wp2
    go_ret
    exact HE.out _ (by first | exact HB.out | exact below_drewN HB.out _) _ rfl
  obtain ⟨aP, eP, q0⟩ := hP 0 (by omega)
  subst eP
  rw [show aP.add 0 = aP by simp [Addr.add]] at q0
  obtain ⟨q, hq⟩ : ∃ q, P.length = q + 1 := ⟨P.length - 1, by omega⟩
  have hz0 := hPr 0 (by omega)
  have HP : Hid (IntsAt w (some aP) .i64 P) := hP
  have HPr : Hid (∀ i, i < P.length → nth P i ≤ 9223372036854775807) := hPr
  have HXt : Hid (TxAt w B a1 A2 Ab c1 ml c2 cb ent text) := hX
  have HR : Hid (∀ i, i < text.length → 0 ≤ nth text i ∧ nth text i < 4294967296) := hR
  obtain ⟨z0, ez0⟩ : ∃ z, Hid (nth P 0 = z) := ⟨_, rfl⟩
  rw [ez0.out] at hz0 q0
  have CH := fun (p : Int) (hp : p ≤ 9223372036854775807) wx (hb : Below w.heap.size w wx) => has_any B a1 A2 Ab c1 ml c2 cb ent text n p wx (hX.keep hb) (by omega) hp
  have tr := tailI_run aP (q + 1) cP (by omega) (by omega)
  rw [show q + 1 - 1 = q by omega] at tr
  have hqc : q + 1 ≤ cP := by omega
  have hql : q ≤ 1048576 := by omega
  obtain ⟨X, HX⟩ : ∃ X, Hid (w.alloc (.cells #[.int .i64 n, .slice (some aP) (q + 1) cP] 43) = X) := ⟨_, rfl⟩
  have HB : Hid (Below w.heap.size w X) := by unfold Hid; rw [← HX.out]; exact lb_alloc (Below.refl _ _) _
  have x0 : X.cell? ⟨w.heap.size, 0, none⟩ = some (.int .i64 n) := by rw [← HX.out]; simp [go_sem]
  have x1 : X.cell? ⟨w.heap.size, 1, none⟩ = some (.slice (some aP) (q + 1) cP) := by rw [← HX.out]; simp [go_sem]
  have y0 := lkeep HB.out q0
  have hB0 := HB.out
  have hne : ((q : Int) + 1 == 0) = false := by rw [beq_eq_false_iff_ne]; omega
  have HLq : Hid (P.length = q + 1) := hq
  rw [hq]
  clear hq hP hPr hX hR h0 q0 hPl hPc
  by_cases hf : fitB text n z0 = true
  · obtain ⟨f1, f2, f3⟩ := fit_yes hf
    obtain ⟨nn, rfl⟩ : ∃ nn : Nat, n = (nn : Int) := ⟨n.toNat, by omega⟩
    obtain ⟨p0, rfl⟩ : ∃ p0 : Nat, z0 = (p0 : Int) := ⟨z0.toNat, by omega⟩
    have g1 : 0 < nn := by omega
    have g2 : p0 + nn ≤ text.length := by omega
    have C1 := fun wx (hb : Below w.heap.size w wx) => CH (p0 : Int) hz0 wx hb
    rw [hf] at C1
    have CF := fun (p : Nat) (hp : p + nn ≤ text.length) wx (hb : Below w.heap.size w wx) => txfrom_any B a1 A2 Ab c1 ml c2 cb ent text nn p wx (HXt.out.keep hb) (by omega) hc g1 hp
    go_enter Tryz.func35, Tryz.ntmps35
    go_upto_region 1 with fail
    rw [HX.out]
    clear HX
    have BX : Below X.heap.size X X := Below.refl _ _
    go_region_held3 (fun W => Below X.heap.size X W ∧ W.cell? ⟨w.heap.size, 0, none⟩ = some (.int .i64 (nn : Int)) ∧ W.cell? ⟨w.heap.size, 1, none⟩ = some (.slice (some aP) (q + 1) cP) ∧ W.cell? aP = some (.int .i64 (p0 : Int))) (first | (refine ⟨?_, lkeep ?_ x0, lkeep ?_ x1, lkeep ?_ y0⟩ <;> ((repeat (first | assumption | exact Below.refl _ _ | exact (‹Below _ _ _ ∧ _›).1 | apply Below.drew | refine lb_trans ?_ hb)); done))) ((go_at_call 41; refine (C1 _ (lb_trans hB0 (by first | exact BX | exact BX.drew | exact (‹Below _ _ _ ∧ _›).1))).mono ?_; rintro e w1 ⟨rfl, e1⟩; have e2 := e1.symm; clear e1; subst e2))
    rename_i hS
    obtain ⟨sB, s0, s1, s2⟩ := hS
    have HBY : Hid (Below w.heap.size w X.drew) := lb_trans hB0 sB
    clear BX x0 x1 y0 C1
    generalize X.drew = Y at sB s0 s1 s2 HBY ⊢
    clear sB HB hB0
    clear X
    have BY : Below Y.heap.size Y Y := Below.refl _ _
    have CF0 := fun wx (hb : Below w.heap.size w wx) => CF p0 g2 wx hb
    have hBY := HBY.out
    go_upto_region 3 with fail
    go_region_held3 (fun W => Below Y.heap.size Y W ∧ W.cell? ⟨w.heap.size, 0, none⟩ = some (.int .i64 (nn : Int)) ∧ W.cell? ⟨w.heap.size, 1, none⟩ = some (.slice (some aP) (q + 1) cP) ∧ W.cell? aP = some (.int .i64 (p0 : Int))) (first | (refine ⟨?_, lkeep ?_ s0, lkeep ?_ s1, lkeep ?_ s2⟩ <;> ((repeat (first | assumption | exact Below.refl _ _ | exact (‹Below _ _ _ ∧ _›).1 | apply Below.drew | refine lb_trans ?_ hb)); done))) ((go_at_call 55; refine (CF0 _ (lb_trans hBY (by first | exact BY | exact BY.drew | exact (‹Below _ _ _ ∧ _›).1))).mono ?_; rintro e w1 ⟨rfl, e1⟩; have e2 := e1.symm; clear e1; subst e2))
    rename_i hS
    obtain ⟨sB, r0, r1, r2⟩ := hS
    have HBZ : Hid (Below w.heap.size w Y.drew) := lb_trans hBY sB
    clear BY s0 s1 s2 CF0 hBY HBY
    generalize Y.drew = Z at sB r0 r1 r2 HBZ ⊢
    clear sB
    clear Y
    have HX0 : Hid (∀ W, Below Z.heap.size Z W → W.cell? ⟨w.heap.size, 0, none⟩ = some (.int .i64 (nn : Int)) ∧ W.cell? ⟨w.heap.size, 1, none⟩ = some (.slice (some aP) (q + 1) cP)) := fun W hb => ⟨lkeep hb r0, lkeep hb r1⟩
    have CFh : Hid (∀ (p : Nat), p + nn ≤ text.length → ∀ wx, Below w.heap.size w wx → Calls Tryz.prog 55 #[.pointer (some ⟨B, 0, none⟩), .int .i64 (p : Int), .int .i64 (nn : Int)] wx fun e w' => e = .returned (.slice (some (a1.add p)) nn (c1 - p)) ∧ w' = wx) := CF
    have CHh : Hid (∀ (p : Int), p ≤ 9223372036854775807 → ∀ wx, Below w.heap.size w wx → Calls Tryz.prog 41 #[.pointer (some ⟨B, 0, none⟩), .int .i64 (nn : Int), .int .i64 p] wx fun e w' => e = .returned (.bool (fitB text (nn : Int) p)) ∧ w' = wx) := CH
    have HNO : Hid (∀ j, j < q → ¬ (nth P j < nth P (j + 1) ∧ fitB text (nn : Int) (nth P (j + 1)) = true ∧ cutN text (nth P (j + 1)).toNat nn = cutN text p0 nn) → ∀ w', Below w.heap.size w w' → ∀ e, e = .returned (.bool false) → IsoP text (nn : Int) P w e w') := fun j hj hno w' hb => iso_no (fun h => by
      have h3 := h.2.2 j (by have := HLq.out; omega)
      have h2 := h.2.1 (j + 1) (by have := HLq.out; omega)
      rw [ez0.out] at h3
      exact hno ⟨h3.1, h2, h3.2.1⟩) hb
    have hfT : Hid (fitB text (nn : Int) (p0 : Int) = true) := hf
    clear CF CH hf r0 r1 r2
    obtain ⟨r0, r1⟩ := HX0.out Z (Below.refl _ _)
    go_wp2
    go_loopw [35] (fun i wr => ∃ j : Nat, i = .int .i64 (j : Int) ∧ j ≤ q ∧ Hid (∀ t, t < j → nth P t < nth P (t + 1) ∧ fitB text (nn : Int) (nth P (t + 1)) = true ∧ cutN text (nth P (t + 1)).toNat nn = cutN text p0 nn) ∧ Hid (Below Z.heap.size Z wr)) (fun i _ => q - (intOf i).toNat)
    case atStart => exact ⟨0, rfl, Nat.zero_le _, fun t ht => absurd ht (Nat.not_lt_zero _), Below.refl _ _⟩
    case round =>
      clear r0 r1
      obtain ⟨j, rfl, hj, HG, HBr⟩ := hrel
      have HBw : Hid (Below w.heap.size w wr) := lb_trans HBZ.out HBr.out
      obtain ⟨r0, r1⟩ := HX0.out wr HBr.out
      by_cases hlt : j < q
      · have hlt' : (j : Int) < (q : Int) := by omega
        obtain ⟨b1, eb, d1⟩ := (HP.out.keep HBw.out) j (by have := HLq.out; omega)
        obtain rfl := Option.some.inj eb
        obtain ⟨b2, eb, d2⟩ := (HP.out.keep HBw.out) (j + 1) (by have := HLq.out; omega)
        obtain rfl := Option.some.inj eb
        have d2' : wr.cell? ((tlI aP cP).add j) = some (.int .i64 (nth P (j + 1))) := by
          unfold tlI
          rw [if_neg (by omega), Deep.add_add, Nat.add_comm 1 j]
          exact d2
        have hv := HPr.out (j + 1) (by have := HLq.out; omega)
        have HN := HNO.out j hlt
        have HN : Hid (¬ (nth P j < nth P (j + 1) ∧ fitB text (nn : Int) (nth P (j + 1)) = true ∧ cutN text (nth P (j + 1)).toNat nn = cutN text p0 nn) → ∀ w', Below w.heap.size w w' → ∀ e, e = .returned (.bool false) → IsoP text (nn : Int) P w e w') := HN
        have HG2 : Hid (nth P j < nth P (j + 1) ∧ fitB text (nn : Int) (nth P (j + 1)) = true ∧ cutN text (nth P (j + 1)).toNat nn = cutN text p0 nn → ∀ t, t < j + 1 → nth P t < nth P (t + 1) ∧ fitB text (nn : Int) (nth P (t + 1)) = true ∧ cutN text (nth P (t + 1)).toNat nn = cutN text p0 nn) := fun h t ht => by
          by_cases e : t = j
          · rw [e]; exact h
          · exact HG.out t (by omega)
        clear d2
        generalize nth P j = u at *
        generalize nth P (j + 1) = v at *
        by_cases hA : v ≤ u
        · have HE := HN.out (fun h => by omega) wr HBw.out
          have HE : Hid (∀ e, e = .returned (.bool false) → IsoP text (nn : Int) P w e wr) := HE
          clear HN HG2 HG
          go_wp2
          go_ret
          exact HE.out _ rfl
        · have C1 := CHh.out v hv wr HBw.out
          cases hfv : fitB text (nn : Int) v with
          | false =>
            have HE := HN.out (fun h => by rw [hfv] at h; cases h.2.1) wr HBw.out
            have HE : Hid (∀ e, e = .returned (.bool false) → IsoP text (nn : Int) P w e wr) := HE
            rw [hfv] at C1
            clear HN HG2 HG hfv
            go_wp2_with (go_at_call 41; refine C1.mono ?_; rintro e w1 ⟨rfl, e1⟩; have e2 := e1.symm; clear e1; subst e2)
            go_ret
            exact HE.out _ rfl
          | true =>
            obtain ⟨-, k2, k3⟩ := fit_yes hfv
            obtain ⟨p, rfl⟩ : ∃ p : Nat, v = (p : Int) := ⟨v.toNat, by omega⟩
            have hpn : p + nn ≤ text.length := by omega
            have C2 := CFh.out p hpn wr HBw.out
            have C3 := sleqw_any (some (a1.add p)) (some (a1.add p0)) (c1 - p) (c1 - p0) (cutN text p nn) (cutN text p0 nn) wr (ints_cut (HXt.out.keep HBw.out).txt hpn) (ints_cut (HXt.out.keep HBw.out).txt g2) (by rw [cutN_len hpn]; omega)
            rw [cutN_len hpn, cutN_len g2] at C3
            rw [hfv] at C1
            by_cases he : cutN text p nn = cutN text p0 nn
            · have HG3 := HG2.out ⟨by omega, hfv, by rw [show ((p : Int)).toNat = p by omega]; exact he⟩
              have HG3 : Hid (∀ t, t < j + 1 → nth P t < nth P (t + 1) ∧ fitB text (nn : Int) (nth P (t + 1)) = true ∧ cutN text (nth P (t + 1)).toNat nn = cutN text p0 nn) := HG3
              rw [decide_eq_true he] at C3
              clear HN HG2 HG hfv he
              go_wp2_with (first
                | (go_at_call 41; refine C1.mono ?_; rintro e w1 ⟨rfl, e1⟩; have e2 := e1.symm; clear e1; subst e2)
                | (go_at_call 55; refine C2.mono ?_; rintro e w1 ⟨rfl, e1⟩; have e2 := e1.symm; clear e1; subst e2)
                | (go_at_call 56; refine C3.mono ?_; rintro e w3 ⟨rfl, hb3⟩))
              go_roundw
              case rel => exact ⟨j + 1, by go_num, by omega, HG3, lb_trans HBr.out hb3⟩
              case measure => simp [intOf]; omega
            · have HE := HN.out (fun h => he (by have := h.2.2; rwa [show ((p : Int)).toNat = p by omega] at this))
              have HE : Hid (∀ w', Below w.heap.size w w' → ∀ e, e = .returned (.bool false) → IsoP text (nn : Int) P w e w') := HE
              rw [decide_eq_false he] at C3
              clear HN HG2 HG hfv he
              go_wp2_with (first
                | (go_at_call 41; refine C1.mono ?_; rintro e w1 ⟨rfl, e1⟩; have e2 := e1.symm; clear e1; subst e2)
                | (go_at_call 55; refine C2.mono ?_; rintro e w1 ⟨rfl, e1⟩; have e2 := e1.symm; clear e1; subst e2)
                | (go_at_call 56; refine C3.mono ?_; rintro e w3 ⟨rfl, hb3⟩))
              go_ret
              exact HE.out _ (lb_trans HBw.out hb3) _ rfl
      · obtain rfl : j = q := by omega
        have hlt' : ¬ (j : Int) < (j : Int) := by omega
        have HYes : Hid (hasN (alW (cutN text p0 nn)) nn = false ∨ j = 0 → OneP text (nn : Int) P) := fun h => by
          have hL := HLq.out
          refine ⟨by omega, fun i hi => ?_, fun i hi => ?_⟩
          · cases i with
            | zero => rw [ez0.out]; exact hfT.out
            | succ i => exact (HG.out i (by omega)).2.1
          · obtain ⟨t1, t2, t3⟩ := HG.out i (by omega)
            rw [ez0.out]
            exact ⟨t1, t3, by rcases h with h | h
                              · exact h
                              · omega⟩
        have HNo2 : Hid (hasN (alW (cutN text p0 nn)) nn = true → 0 < j → ¬ OneP text (nn : Int) P) := fun h h0 hO => by
          have := (hO.2.2 0 (by have := HLq.out; omega)).2.2
          rw [ez0.out] at this
          have this : hasN (alW (cutN text p0 nn)) nn = false := this
          rw [h] at this; cases this
        by_cases h0 : j = 0
        · subst h0
          have HE : Hid (OneP text (nn : Int) P) := HYes.out (.inr rfl)
          clear HYes HNo2 HG
          go_wp2
          go_ret
          exact ⟨⟨true, rfl, ⟨fun _ => HE.out, fun _ => rfl⟩⟩, HBw.out⟩
        · have hne1 : ((j : Int) + 1 == 1) = false := by rw [beq_eq_false_iff_ne]; omega
          have C4 := cof_al (some (a1.add p0)) (c1 - p0) nn (cutN text p0 nn) wr (ints_cut (HXt.out.keep HBw.out).txt g2) (range_cut HR.out g2) (by rw [cutN_len g2]; exact Nat.le_refl _) (by rw [cutN_len g2]; omega)
          have HIff : Hid ((!hasN (alW (cutN text p0 nn)) nn) = true ↔ OneP text (nn : Int) P) := ⟨fun h => HYes.out (.inl (by simpa using h)), fun h => by
            cases hh : hasN (alW (cutN text p0 nn)) nn with
            | false => rfl
            | true => exact absurd h (HNo2.out hh (by omega))⟩
          clear HYes HNo2 HG
          generalize hasN (alW (cutN text p0 nn)) nn = bb at *
          go_wp2_with (go_at_call 25; refine C4.mono ?_; rintro e w3 ⟨rfl, hb3⟩)
          go_ret
          exact ⟨⟨!bb, rfl, HIff.out⟩, lb_trans HBw.out hb3⟩
  · have hf' : fitB text n z0 = false := by simpa using hf
    have HE : Hid (∀ w', Below w.heap.size w w' → ∀ e, e = .returned (.bool false) → IsoP text n P w e w') := fun w' hb => iso_no (fun h => by
      have := h.2.1 0 (by have := HLq.out; omega)
      rw [ez0.out] at this
      exact hf this) hb
    have C1 := fun wx (hb : Below w.heap.size w wx) => CH z0 hz0 wx hb
    rw [hf'] at C1
    clear hf hf' CH tr
    go_enter Tryz.func35, Tryz.ntmps35
    go_upto_region 1 with fail
    rw [HX.out]
    clear HX
    have BX : Below X.heap.size X X := Below.refl _ _
    go_region_held3 (fun W => Below X.heap.size X W ∧ W.cell? ⟨w.heap.size, 0, none⟩ = some (.int .i64 n) ∧ W.cell? ⟨w.heap.size, 1, none⟩ = some (.slice (some aP) (q + 1) cP) ∧ W.cell? aP = some (.int .i64 z0)) (first | (refine ⟨?_, lkeep ?_ x0, lkeep ?_ x1, lkeep ?_ y0⟩ <;> ((repeat (first | assumption | exact Below.refl _ _ | exact (‹Below _ _ _ ∧ _›).1 | apply Below.drew | refine lb_trans ?_ hb)); done))) ((go_at_call 41; refine (C1 _ (lb_trans hB0 (by first | exact BX | exact BX.drew | exact (‹Below _ _ _ ∧ _›).1))).mono ?_; rintro e w1 ⟨rfl, e1⟩; have e2 := e1.symm; clear e1; subst e2))
    all_goals (
      rename_i hS
      have sB : Hid _ := hS.1
      clear hS
      go_wp2
      go_ret
      exact HE.out _ (lb_trans hB0 sB.out) _ rfl)

end Go.Proofs.YtmlhnnmelopleaaGreatDoor

namespace Go.Proofs.YtmlhnnmelopleaaGreatDoor
open Go.RowKit

def tstN (kd : Int) (n h z : Nat) (k : Nat) : Bool := if k = 0 then kd == 1 else if k = 1 then kd == 2 else if k = 2 then kd == 3 && !h.testBit 15 else kd == 3 && decide (3 < n) && decide (lestN z < 15)
def ansN (z k : Nat) : Int × Int := if k = 0 then (1, 0) else if k = 1 then (2, 0) else if k = 2 then (3, 0) else (4, (lestN z : Int))
theorem spot_far {text : List Int} {ent : Int} {H : Int → Nat} {n p : Nat} (h : inB text ent n p = false) : spotN text ent H n p = (0, 0) := by
  unfold spotN; rw [if_pos (.inl h)]
theorem spot_first {text : List Int} {ent : Int} {H : Int → Nat} {n p k : Nat} {kd : Int} (hi : inB text ent n p = true) (hk : k < 4) (hd : kindN (cutN text p n) = kd) (h0 : ∀ j, j < k → tstN kd n (H ((p + n - 1 : Nat) : Int)) (busyN text H n p) j = false) (h : tstN kd n (H ((p + n - 1 : Nat) : Int)) (busyN text H n p) k = true) : spotN text ent H n p = ansN (busyN text H n p) k := by
  unfold spotN
  rw [hd, hi]
  have c0 : k = 0 ∨ k = 1 ∨ k = 2 ∨ k = 3 := by omega
  rcases c0 with rfl | rfl | rfl | rfl
  · have e : kd = 1 := by simpa [tstN] using h
    subst e
    simp [ansN]
  · have e : kd = 2 := by simpa [tstN] using h
    subst e
    simp [ansN]
  · have e : kd = 3 ∧ (H ((p + n - 1 : Nat) : Int)).testBit 15 = false := by simpa [tstN] using h
    obtain ⟨rfl, e⟩ := e
    rw [if_neg (by simp), if_neg (by simp), if_pos e]; rfl
  · have e : (kd = 3 ∧ 3 < n) ∧ lestN (busyN text H n p) < 15 := by simpa [tstN] using h
    obtain ⟨⟨rfl, e1⟩, e2⟩ := e
    have e3 := h0 2 (by omega)
    have e3 : (H ((p + n - 1 : Nat) : Int)).testBit 15 = true := by simpa [tstN] using e3
    rw [if_neg (by simp), if_neg (by simp), if_neg (by rw [e3]; simp), if_pos ⟨e1, e2⟩]; rfl
theorem spot_out {text : List Int} {ent : Int} {H : Int → Nat} {n p : Nat} {kd : Int} (hd : kindN (cutN text p n) = kd) (h0 : ∀ j, j < 4 → tstN kd n (H ((p + n - 1 : Nat) : Int)) (busyN text H n p) j = false) : spotN text ent H n p = (0, 0) := by
  have a1 : kd ≠ 1 := by simpa [tstN] using h0 0 (by omega)
  have a2 : kd ≠ 2 := by simpa [tstN] using h0 1 (by omega)
  have a3 : kd = 3 → (H ((p + n - 1 : Nat) : Int)).testBit 15 = true := by simpa [tstN] using h0 2 (by omega)
  have a4 : kd = 3 → 3 < n → 15 ≤ lestN (busyN text H n p) := by simpa [tstN] using h0 3 (by omega)
  have hin := kind_in (cutN text p n)
  rw [hd] at hin
  unfold spotN
  rw [hd]
  by_cases c : inB text ent n p = false ∨ kd = 0
  · rw [if_pos c]
  · have hk : kd = 3 := by
      rcases hin with e | e | e | e
      · exact absurd (.inr e) c
      · exact absurd e a1
      · exact absurd e a2
      · exact e
    rw [if_neg c, if_neg (by simp [hk]), if_neg (by rw [a3 hk]; simp), if_neg (fun h => by have := a4 hk h.1; omega)]
theorem ans_pos (z : Nat) {k : Nat} (_hk : k < 4) : (ansN z k).1 ≠ 0 := by
  unfold ansN
  split
  · simp
  · split
    · simp
    · split <;> simp

end Go.Proofs.YtmlhnnmelopleaaGreatDoor
