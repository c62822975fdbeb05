/-
  The document's Spots.
-/
import Derived.Test.YtmlhnnmelopleaaGreatDoorProg
import Derived.WalkKit
import Derived.WalkSpells
import Derived.WalkLawsBesides
import Derived.RowKit3
import Derived.Below
import Derived.Deep.QuietTactic
import Derived.BigQuiet
import Derived.WalkSmall
import Derived.Laws.Rows
import Derived.Test.YtmlhnnmelopleaaGreatDoorPs51
import Derived.Test.YtmlhnnmelopleaaGreatDoorPs52
import Derived.Test.YtmlhnnmelopleaaGreatDoorPs47
import Derived.Lib.QuietBelow
import Derived.Deep.Cut
import Derived.Deep.RegionHeld3
namespace Go.Proofs.YtmlhnnmelopleaaGreatDoor
open Go.RowKit

def RssP (text : List Int) (ent : Int) (H : Int → Nat) (n : Int) (P : List Int) (w : World) (e : Ending) (w' : World) : Prop := Below w.heap.size w w' ∧ ((¬ OneP text n P ∧ e = .returned (.tuple #[.slice none 0 0, .bool false])) ∨ (OneP text n P ∧ ∃ (A : Option Addr) (c : Nat), e = .returned (.tuple #[.slice A (spotsN text ent H n.toNat P).length c, .bool true]) ∧ SpAt w' A (spotsN text ent H n.toNat P)))
theorem same_iff {text : List Int} {n a b : Nat} (ha : a + n ≤ text.length) (hb : b + n ≤ text.length) : sameB text n a b = true ↔ cutN text b n = cutN text a n ∧ hasN (alW (cutN text a n)) n = false := by
  have e : hasN (alW (cutN text a n)) n = hasN (fun i => alB (nth text (a + i))) n := hasN_fit fun i hi => by unfold alW; rw [cutN_nth hi]
  unfold sameB
  constructor
  · intro h
    have h : hasN (fun i => (nth text (a + i) != nth text (b + i)) || alB (nth text (a + i))) n = false := by simpa using h
    have hz : ∀ i, i < n → nth text (a + i) = nth text (b + i) ∧ alB (nth text (a + i)) = false := fun i hi => by
      have h1 : ((nth text (a + i) != nth text (b + i)) || alB (nth text (a + i))) = false := by
        cases hx : ((nth text (a + i) != nth text (b + i)) || alB (nth text (a + i))) with
        | false => rfl
        | true => rw [hasN_yes (f := fun i => (nth text (a + i) != nth text (b + i)) || alB (nth text (a + i))) hi hx] at h; cases h
      rw [Bool.or_eq_false_iff] at h1
      exact ⟨by simpa using h1.1, h1.2⟩
    refine ⟨nth_list (by rw [cutN_len ha, cutN_len hb]) fun i hi => ?_, ?_⟩
    · rw [cutN_len hb] at hi
      rw [cutN_nth hi, cutN_nth hi, (hz i hi).1]
    · rw [e]
      exact hasN_no fun i hi => (hz i hi).2
  · rintro ⟨h1, h2⟩
    rw [e] at h2
    have : hasN (fun i => (nth text (a + i) != nth text (b + i)) || alB (nth text (a + i))) n = false := hasN_no fun i hi => by
      have h3 : alB (nth text (a + i)) = false := by
        cases hx : alB (nth text (a + i)) with
        | false => rfl
        | true => rw [hasN_yes (f := fun i => alB (nth text (a + i))) hi hx] at h2; cases h2
      have h4 : nth text (a + i) = nth text (b + i) := by
        have : nth (cutN text b n) i = nth (cutN text a n) i := by rw [h1]
        rw [cutN_nth hi, cutN_nth hi] at this
        exact this.symm
      rw [h3, h4]; simp
    rw [this]; rfl
/-- What stands of the first k places. -/
def GoodI (text : List Int) (n : Int) (P : List Int) (i : Nat) : Prop := fitB text n (nth P i) = true ∧ (0 < i → nth P (i - 1) < nth P i ∧ sameB text n.toNat (nth P 0).toNat (nth P i).toNat = true)
theorem good_one {text : List Int} {n : Int} {P : List Int} (h0 : 0 < P.length) (h : ∀ i, i < P.length → GoodI text n P i) : OneP text n P := by
  refine ⟨h0, fun i hi => (h i hi).1, fun i hi => ?_⟩
  obtain ⟨f0, g0⟩ := h 0 h0
  obtain ⟨f1, g1⟩ := h (i + 1) hi
  obtain ⟨g1, g2⟩ := g1 (by omega)
  obtain ⟨k1, k2, k3⟩ := fit_yes f0
  obtain ⟨l1, l2, l3⟩ := fit_yes f1
  have := (same_iff (text := text) (n := n.toNat) (a := (nth P 0).toNat) (b := (nth P (i + 1)).toNat) (by omega) (by omega)).1 g2
  exact ⟨g1, this.1, this.2⟩
theorem one_good {text : List Int} {n : Int} {P : List Int} (h : OneP text n P) : ∀ i, i < P.length → GoodI text n P i := fun i hi => by
  obtain ⟨h0, h1, h2⟩ := h
  refine ⟨h1 i hi, fun hp => ?_⟩
  obtain ⟨j, rfl⟩ : ∃ j, i = j + 1 := ⟨i - 1, by omega⟩
  obtain ⟨g1, g2, g3⟩ := h2 j hi
  obtain ⟨k1, k2, k3⟩ := fit_yes (h1 0 h0)
  obtain ⟨l1, l2, l3⟩ := fit_yes (h1 (j + 1) hi)
  exact ⟨g1, (same_iff (by omega) (by omega)).2 ⟨g2, g3⟩⟩
theorem have_c3 {G : Prop} {w w1 : World} (p : Nat) (a b c : Value) (hb : Below w.heap.size w w1) (h : (w.cell? ⟨p, 0, none⟩ = some a ∧ w.frozen? ⟨p, 0, none⟩ = false) ∧ (w.cell? ⟨p, 1, none⟩ = some b ∧ w.frozen? ⟨p, 1, none⟩ = false) ∧ (w.cell? ⟨p, 2, none⟩ = some c ∧ w.frozen? ⟨p, 2, none⟩ = false)) (k : w1.cell? ⟨p, 0, none⟩ = some a → w1.frozen? ⟨p, 0, none⟩ = false → w1.cell? ⟨p, 1, none⟩ = some b → w1.frozen? ⟨p, 1, none⟩ = false → w1.cell? ⟨p, 2, none⟩ = some c → w1.frozen? ⟨p, 2, none⟩ = false → G) : G := by
  obtain ⟨⟨a1, a2⟩, ⟨b1, b2⟩, ⟨c1, c2⟩⟩ := h
  have hlt := World.block_lt_of_cell? w ⟨p, 0, none⟩ a1
  exact k (lkeep hb a1) (by rw [hb.frozen (p := ⟨p, 0, none⟩) hlt]; exact a2) (lkeep hb b1) (by rw [hb.frozen (p := ⟨p, 1, none⟩) hlt]; exact b2) (lkeep hb c1) (by rw [hb.frozen (p := ⟨p, 2, none⟩) hlt]; exact c2)
open Go.Sort in
set_option maxRecDepth 100000 in
set_option maxHeartbeats 32000000 in
theorem spotsr_any (a1 : Addr) (A2 Ab : Option Addr) (c1 ml c2 cb : Nat) (ent : Int) (text : List Int) (ah : Addr) (H : Int → Nat) (n : Int) (A : Option Addr) (cP : Nat) (P : List Int) (w : World) (hX : LkAt w a1 Ab ah ent text H) (hR : ∀ i, i < text.length → 0 ≤ nth text i ∧ nth text i < 4294967296) (hl : text.length ≤ 16384) (hc : text.length ≤ c1) (hP : IntsAt w A .i64 P) (hPl : P.length ≤ 1048576) (hPr : ∀ i, i < P.length → nth P i ≤ 9223372036854775807) :
    Calls Tryz.prog 17 #[LkV a1 A2 c1 ml c2 ent text Ab (blkL text ent).length cb ah, .int .i64 n, .slice A P.length cP] w (RssP text ent H n P w) := by
  obtain ⟨X, HX⟩ : ∃ X, Hid (w.alloc (.cells #[.slice (some a1) text.length c1, .int .i64 ent, .slice A2 ml c2, .slice Ab (blkL text ent).length cb, .slice (some ah) text.length text.length] 47) = X) := ⟨_, rfl⟩
  have HB : Hid (Below w.heap.size w X) := by unfold Hid; rw [← HX.out]; exact lb_alloc (Below.refl _ _) _
  have i0 : X.cell? ⟨w.heap.size, 0, none⟩ = some (.slice (some a1) text.length c1) := by rw [← HX.out]; simp [go_sem]
  have i1 : X.cell? ⟨w.heap.size, 1, none⟩ = some (.int .i64 ent) := by rw [← HX.out]; simp [go_sem]
  have i2 : X.cell? ⟨w.heap.size, 2, none⟩ = some (.slice A2 ml c2) := by rw [← HX.out]; simp [go_sem]
  have i3 : X.cell? ⟨w.heap.size, 3, none⟩ = some (.slice Ab (blkL text ent).length cb) := by rw [← HX.out]; simp [go_sem]
  have i4 : X.cell? ⟨w.heap.size, 4, none⟩ = some (.slice (some ah) text.length text.length) := by rw [← HX.out]; simp [go_sem]
  by_cases h0 : P.length = 0
  · have HE : Hid (∀ w', Below w.heap.size w w' → RssP text ent H n P w (.returned (.tuple #[.slice none 0 0, .bool false])) w') := fun w' hb => ⟨hb, .inl ⟨fun h => by have := h.1; omega, rfl⟩⟩
    obtain rfl : P = [] := List.eq_nil_of_length_eq_zero h0
    clear hX hP hPr hR hPl h0
    unfold LkV
    go_enter Tryz.func17, Tryz.ntmps17
    go_upto_region 1 with fail
    rw [HX.out]
    clear HX
    go_wp2
    go_ret2
    exact HE.out _ HB.out
  obtain ⟨aP, eP, q0⟩ := hP 0 (by omega)
  subst eP
  rw [show aP.add 0 = aP by simp [Addr.add]] at q0
  have hne : ((P.length : Int) == 0) = false := by rw [beq_eq_false_iff_ne]; omega
  have hPos : Hid (0 < P.length) := by unfold Hid; omega
  have hP0' : (0 : Int) < (P.length : Int) := by omega
  have HXl : Hid (LkAt w a1 Ab ah ent text H) := hX
  have HP : Hid (IntsAt w (some aP) .i64 P) := hP
  have HPr : Hid (∀ i, i < P.length → nth P i ≤ 9223372036854775807) := hPr
  have HR : Hid (∀ i, i < text.length → 0 ≤ nth text i ∧ nth text i < 4294967296) := hR
  have HI : Hid (∀ W, Below X.heap.size X W → (W.cell? ⟨w.heap.size, 0, none⟩ = some (.slice (some a1) text.length c1) ∧ W.cell? ⟨w.heap.size, 1, none⟩ = some (.int .i64 ent) ∧ W.cell? ⟨w.heap.size, 2, none⟩ = some (.slice A2 ml c2)) ∧ W.cell? ⟨w.heap.size, 3, none⟩ = some (.slice Ab (blkL text ent).length cb) ∧ W.cell? ⟨w.heap.size, 4, none⟩ = some (.slice (some ah) text.length text.length)) := fun W hb => ⟨⟨lkeep hb i0, lkeep hb i1, lkeep hb i2⟩, lkeep hb i3, lkeep hb i4⟩
  obtain ⟨z0, ez0⟩ : ∃ z, Hid (nth P 0 = z) := ⟨_, rfl⟩
  rw [ez0.out] at q0
  have HQ0 : Hid (∀ W, Below w.heap.size w W → W.cell? aP = some (.int .i64 z0)) := fun W hb => lkeep hb q0
  clear hX hP hPr hR h0 q0
  unfold LkV
  go_enter Tryz.func17, Tryz.ntmps17
  go_upto_region 1 with fail
  rw [HX.out]
  clear HX i0 i1 i2 i3 i4
  go_wp2
  go_loopw [8] (fun v wr => ∃ k : Nat, v = .int .i64 (k : Int) ∧ k ≤ P.length ∧ Hid (∀ i, i < k → GoodI text n P i) ∧ Hid (Below X.heap.size X wr)) (fun v _ => P.length - (intOf v).toNat)
  case atStart => exact ⟨0, rfl, Nat.zero_le _, fun i hi => absurd hi (Nat.not_lt_zero _), Below.refl _ _⟩
  case round =>
    obtain ⟨k, rfl, hk, HG, HBr⟩ := hrel
    obtain ⟨⟨i0, i1, i2⟩, i3, i4⟩ := HI.out wr HBr.out
    have HBw : Hid (Below w.heap.size w wr) := lb_trans HB.out HBr.out
    by_cases hlt : k < P.length
    · have hlt' : (k : Int) < (P.length : Int) := by omega
      obtain ⟨x, ex, d1⟩ := (HP.out.keep HBw.out) k hlt
      obtain rfl := Option.some.inj ex
      have hv := HPr.out k hlt
      have hq0 := HQ0.out wr HBw.out
      have CFt := fun wx => fits_any (some a1) A2 c1 ml c2 ent text n (nth P k) wx (by omega) hv
      have HNO : Hid (¬ GoodI text n P k → ∀ w', Below w.heap.size w w' → RssP text ent H n P w (.returned (.tuple #[.slice none 0 0, .bool false])) w') := fun hno w' hb => ⟨hb, .inl ⟨fun h => hno (one_good h k hlt), rfl⟩⟩
      have HG2 : Hid (GoodI text n P k → ∀ i, i < k + 1 → GoodI text n P i) := fun h i hi => by
        by_cases e : i = k
        · rw [e]; exact h
        · exact HG.out i (by omega)
      cases hf : fitB text n (nth P k) with
      | false =>
        have HE : Hid (∀ w', Below w.heap.size w w' → RssP text ent H n P w (.returned (.tuple #[.slice none 0 0, .bool false])) w') := HNO.out (fun h => by rw [h.1] at hf; cases hf)
        simp only [hf] at CFt
        clear hf HNO HG2 HG HI
        generalize nth P k = v at *
        go_upto_region 6 with fail
        have e0 := cell_regrown i0
        have e1 := cell_regrown i1
        have e2 := cell_regrown i2
        have e3 := cell_regrown d1
        have cF := fun d os => Calls.regrown_of (CFt (grow (redrawn wr d) os))
        clear CFt
        refine wp_region_quiet_below (by kernel_rfl) (by kernel_rfl) ?_
        repeat (go_big_quiet_step (exact cF _ _))
        refine wpQuiet_nil ?_
        intro w5 hw5
        obtain ⟨pw, hw5⟩ := hw5
        have HB5 : Hid (Below wr.heap.size wr w5) := by unfold Hid; rw [hw5]; exact below_regrown wr pw.d pw.os
        clear hw5 pw e0 e1 e2 e3 cF
        go_wp2
        go_ret2
        exact HE.out _ (lb_trans HBw.out HB5.out)
      | true =>
        simp only [hf] at CFt
        cases k with
        | zero =>
          have HGn : Hid (∀ i, i < 0 + 1 → GoodI text n P i) := HG2.out ⟨hf, fun h => absurd h (Nat.lt_irrefl _)⟩
          rw [show aP.add 0 = aP by simp [Addr.add]] at d1
          have hd0 : decide ((0 : Int) < ((0 : Nat) : Int)) = false := by decide
          clear hf HNO HG2 HG HI
          generalize nth P 0 = v at *
          go_upto_region 6 with fail
          have e0 := cell_regrown i0
          have e1 := cell_regrown i1
          have e2 := cell_regrown i2
          have e3 := cell_regrown d1
          have cF := fun d os => Calls.regrown_of (CFt (grow (redrawn wr d) os))
          refine wp_region_quiet_below (by kernel_rfl) (by kernel_rfl) ?_
          repeat (go_big_quiet_step (exact cF _ _))
          refine wpQuiet_nil ?_
          intro w5 hw5
          obtain ⟨pw, hw5⟩ := hw5
          have HB5 : Hid (Below wr.heap.size wr w5) := by unfold Hid; rw [hw5]; exact below_regrown wr pw.d pw.os
          clear hw5 pw e0 e1 e2 e3 cF
          go_wp2
          go_roundw
          case rel => exact ⟨0 + 1, by go_num, by omega, HGn, lb_trans HBr.out HB5.out⟩
          case measure => simp [intOf]; omega
        | succ j =>
          obtain ⟨x, ex, d2⟩ := (HP.out.keep HBw.out) j (by omega)
          obtain rfl := Option.some.inj ex
          have hj0 : decide ((0 : Int) < ((j + 1 : Nat) : Int)) = true := decide_eq_true (by omega)
          have hj1 : (j : Int) < (P.length : Int) := by omega
          have hj2 : (((j + 1 : Nat) : Int)) = (j : Int) + 1 := by omega
          have hj3 : (j : Int) ≤ 1048576 := by omega
          have g0 := (HG.out 0 (by omega)).1
          obtain ⟨k1, k2, k3⟩ := fit_yes g0
          obtain ⟨l1, l2, l3⟩ := fit_yes hf
          rw [ez0.out] at k2 k3
          obtain ⟨nn, rfl⟩ : ∃ nn : Nat, n = (nn : Int) := ⟨n.toNat, by omega⟩
          obtain ⟨p0, rfl⟩ : ∃ p0 : Nat, z0 = (p0 : Int) := ⟨z0.toNat, by omega⟩
          obtain ⟨p, hp⟩ : ∃ p : Nat, nth P (j + 1) = (p : Int) := ⟨(nth P (j + 1)).toNat, by omega⟩
          have CE := fun wx (hb : Below wr.heap.size wr wx) => equal_any a1 A2 c1 ml c2 ent text nn p0 p wx (HXl.out.txt.keep (lb_trans HBw.out hb)) HR.out hl (by omega) (by omega)
          have HGs : Hid (nth P j < (p : Int) → sameB text nn p0 p = true → GoodI text (nn : Int) P (j + 1)) := fun h1 h2 => ⟨hf, fun _ => ⟨by rw [hp]; exact h1, by rw [ez0.out, hp]; exact h2⟩⟩
          have HGx : Hid (¬ (nth P j < (p : Int) ∧ sameB text nn p0 p = true) → ¬ GoodI text (nn : Int) P (j + 1)) := fun h1 h2 => by
            have := h2.2 (by omega)
            rw [ez0.out, hp] at this
            exact h1 this
          rw [hp] at CFt d1
          clear g0 k1 k2 k3 l1 l2 l3 hp hf HG HI
          generalize nth P j = u at *
          by_cases hle : u < (p : Int)
          · have hd1 : decide ((p : Int) ≤ u) = false := decide_eq_false (by omega)
            cases hsm : sameB text nn p0 p with
            | true =>
              have HGn : Hid (∀ i, i < j + 1 + 1 → GoodI text (nn : Int) P i) := HG2.out (HGs.out hle hsm)
              simp only [hsm] at CE
              clear hsm HGs HGx HG2 HNO
              go_upto_region 6 with fail
              have e0 := cell_regrown i0
              have e1 := cell_regrown i1
              have e2 := cell_regrown i2
              have e3 := cell_regrown d1
              have e3' : ∀ d os, (grow (redrawn wr d) os).cell? ⟨aP.block, aP.off + (j + 1), none⟩ = some (.int .i64 (p : Int)) := e3
              have e4 := cell_regrown d2
              have e5 := cell_regrown hq0
              have cF := fun d os => Calls.regrown_of (CFt (grow (redrawn wr d) os))
              have cE := fun d os => Calls.regrown_of (CE (grow (redrawn wr d) os) (below_regrown wr d os))
              refine wp_region_quiet_below (by kernel_rfl) (by kernel_rfl) ?_
              repeat (go_big_quiet_step ((first | exact cF _ _ | exact cE _ _)))
              refine wpQuiet_nil ?_
              intro w5 hw5
              obtain ⟨pw, hw5⟩ := hw5
              have HB5 : Hid (Below wr.heap.size wr w5) := by unfold Hid; rw [hw5]; exact below_regrown wr pw.d pw.os
              clear hw5 pw e0 e1 e2 e3 e3' e4 e5 cF cE
              go_wp2
              go_roundw
              case rel => exact ⟨j + 1 + 1, by go_num, by omega, HGn, lb_trans HBr.out HB5.out⟩
              case measure => simp [intOf]; omega
            | false =>
              have HE : Hid (∀ w', Below w.heap.size w w' → RssP text ent H (nn : Int) P w (.returned (.tuple #[.slice none 0 0, .bool false])) w') := HNO.out (HGx.out (fun h => by rw [hsm] at h; cases h.2))
              simp only [hsm] at CE
              clear hsm HGs HGx HG2 HNO
              go_upto_region 6 with fail
              have e0 := cell_regrown i0
              have e1 := cell_regrown i1
              have e2 := cell_regrown i2
              have e3 := cell_regrown d1
              have e3' : ∀ d os, (grow (redrawn wr d) os).cell? ⟨aP.block, aP.off + (j + 1), none⟩ = some (.int .i64 (p : Int)) := e3
              have e4 := cell_regrown d2
              have e5 := cell_regrown hq0
              have cF := fun d os => Calls.regrown_of (CFt (grow (redrawn wr d) os))
              have cE := fun d os => Calls.regrown_of (CE (grow (redrawn wr d) os) (below_regrown wr d os))
              refine wp_region_quiet_below (by kernel_rfl) (by kernel_rfl) ?_
              repeat (go_big_quiet_step ((first | exact cF _ _ | exact cE _ _)))
              refine wpQuiet_nil ?_
              intro w5 hw5
              obtain ⟨pw, hw5⟩ := hw5
              have HB5 : Hid (Below wr.heap.size wr w5) := by unfold Hid; rw [hw5]; exact below_regrown wr pw.d pw.os
              clear hw5 pw e0 e1 e2 e3 e3' e4 e5 cF cE
              go_wp2
              go_ret2
              exact HE.out _ (lb_trans HBw.out HB5.out)
          · have HE : Hid (∀ w', Below w.heap.size w w' → RssP text ent H (nn : Int) P w (.returned (.tuple #[.slice none 0 0, .bool false])) w') := HNO.out (HGx.out (fun h => hle h.1))
            have hd1 : decide ((p : Int) ≤ u) = true := decide_eq_true (by omega)
            clear HGs HGx HG2 HNO CE
            go_upto_region 6 with fail
            have e0 := cell_regrown i0
            have e1 := cell_regrown i1
            have e2 := cell_regrown i2
            have e3 := cell_regrown d1
            have e3' : ∀ d os, (grow (redrawn wr d) os).cell? ⟨aP.block, aP.off + (j + 1), none⟩ = some (.int .i64 (p : Int)) := e3
            have e4 := cell_regrown d2
            have cF := fun d os => Calls.regrown_of (CFt (grow (redrawn wr d) os))
            refine wp_region_quiet_below (by kernel_rfl) (by kernel_rfl) ?_
            repeat (go_big_quiet_step (exact cF _ _))
            refine wpQuiet_nil ?_
            intro w5 hw5
            obtain ⟨pw, hw5⟩ := hw5
            have HB5 : Hid (Below wr.heap.size wr w5) := by unfold Hid; rw [hw5]; exact below_regrown wr pw.d pw.os
            clear hw5 pw e0 e1 e2 e3 e3' e4 cF
            go_wp2
            go_ret2
            exact HE.out _ (lb_trans HBw.out HB5.out)
    · obtain rfl : k = P.length := by omega
      obtain ⟨V0, rfl⟩ : ∃ V0, V0 = wr := ⟨wr, rfl⟩
      have hlt' : ¬ (P.length : Int) < (P.length : Int) := by omega
      have HO : Hid (OneP text n P) := good_one hPos.out HG.out
      have HF0 : Hid (∀ i, i < P.length → ∃ p : Nat, nth P i = (p : Int) ∧ (p : Int) + n ≤ text.length) := fun i hi => by
        obtain ⟨f1, f2, f3⟩ := fit_yes (HG.out i hi).1
        exact ⟨(nth P i).toNat, by omega, by omega⟩
      obtain ⟨f1, f2, f3⟩ := fit_yes (HG.out 0 hPos.out).1
      obtain ⟨nn, rfl⟩ : ∃ nn : Nat, n = (nn : Int) := ⟨n.toNat, by omega⟩
      have hnm : Hid (nn = (nn - 1) + 1) := by unfold Hid; omega
      have HF : Hid (∀ i, i < P.length → ∃ p : Nat, nth P i = (p : Int) ∧ p + nn ≤ text.length) := fun i hi => by
        obtain ⟨p, e, h⟩ := HF0.out i hi
        exact ⟨p, e, by omega⟩
      have HXv : Hid (LkAt V0 a1 Ab ah ent text H) := HXl.out.keep HBw.out
      have HPv : Hid (IntsAt V0 (some aP) .i64 P) := HP.out.keep HBw.out
      have HIv : Hid (∀ W, Below V0.heap.size V0 W → (W.cell? ⟨w.heap.size, 0, none⟩ = some (.slice (some a1) text.length c1) ∧ W.cell? ⟨w.heap.size, 1, none⟩ = some (.int .i64 ent) ∧ W.cell? ⟨w.heap.size, 2, none⟩ = some (.slice A2 ml c2)) ∧ W.cell? ⟨w.heap.size, 3, none⟩ = some (.slice Ab (blkL text ent).length cb) ∧ W.cell? ⟨w.heap.size, 4, none⟩ = some (.slice (some ah) text.length text.length)) := fun W hb => HI.out W (lb_trans HBr.out hb)
      have HS0 : Hid (V0.ownsRow V0.heap.size 54 3 (.slice none 0 0) 0 (spNews [])) := World.ownsRow_nil _ _ _ _
      obtain ⟨iS, hi, hz0, hz1, hz2⟩ := infoSp
      clear HG HI HBr HP HXl HPr HQ0 HF0 f1 f2 f3 i0 i1 i2 i3 i4 hP0' hne ez0 hlt hk HB
      go_wp2
      go_loopg [9, 10] P.length (fun gg v9 v10 wr => ∃ (k : Nat) (S : List Spt) (A : Option Addr) (c : Nat), k + gg = P.length ∧ v9 = .slice A S.length c ∧ v10 = .int .i64 (k : Int) ∧ k ≤ P.length ∧ S = spotsN text ent H nn (P.take k) ∧ Hid (wr.ownsRow V0.heap.size 54 3 (.slice A S.length c) S.length (spNews S)) ∧ Hid (Below V0.heap.size V0 wr))
      case atStart => exact ⟨0, [], none, 0, by omega, rfl, rfl, Nat.zero_le _, rfl, HS0, Below.refl _ _⟩
      case round =>
        clear HS0
        obtain ⟨k, S, A, c, hkg, rfl, rfl, hk, hS, HRw, HB2⟩ := hrel
        obtain ⟨V, rfl⟩ : ∃ V, V = wr := ⟨wr, rfl⟩
        have HSe : Hid (S = spotsN text ent H nn (P.take k)) := hS
        clear hS
        have hSl : S.length ≤ 1048576 := by
          rw [HSe.out]
          have := spots_len text ent H nn (P.take k)
          rw [List.length_take] at this
          omega
        by_cases hlt : k < P.length
        · obtain ⟨g1, rfl⟩ : ∃ g1, gk = g1 + 1 := ⟨gk - 1, by omega⟩
          have hlt2 : (k : Int) < (P.length : Int) := by omega
          obtain ⟨p, hp, hpn⟩ := HF.out k hlt
          obtain ⟨x, ex, q⟩ := (HPv.out.keep HB2.out) k hlt
          obtain rfl := Option.some.inj ex
          rw [hp] at q
          have HSt : Hid (spotsN text ent H nn (P.take (k + 1)) = S ++ (if (spotN text ent H nn p).1 = 0 then [] else [((p : Int), spotN text ent H nn p)])) := by
            unfold Hid
            rw [take_snocI hlt, spots_snoc, HSe.out, hp]
            rfl
          have CS := fun wx (hb : Below V.heap.size V wx) => spotr_any a1 A2 Ab c1 ml c2 cb ent text ah H nn (nn - 1) p wx (HXv.out.keep (lb_trans HB2.out hb)) HR.out hl hc hnm.out hpn
          have HLk : Hid (∀ W, Below V.heap.size V W → Below V.heap.size V W ∧ ((W.cell? ⟨w.heap.size, 0, none⟩ = some (.slice (some a1) text.length c1) ∧ W.cell? ⟨w.heap.size, 1, none⟩ = some (.int .i64 ent) ∧ W.cell? ⟨w.heap.size, 2, none⟩ = some (.slice A2 ml c2)) ∧ W.cell? ⟨w.heap.size, 3, none⟩ = some (.slice Ab (blkL text ent).length cb) ∧ W.cell? ⟨w.heap.size, 4, none⟩ = some (.slice (some ah) text.length text.length)) ∧ W.cell? (aP.add k) = some (.int .i64 (p : Int))) := fun W hb => ⟨hb, HIv.out W (lb_trans HB2.out hb), lkeep hb q⟩
          clear q
          unfold RspP LkV at CS
          obtain ⟨sp, hsp⟩ : ∃ sp, spotN text ent H nn p = sp := ⟨_, rfl⟩
          rw [hsp] at HSt
          simp only [hsp] at CS
          obtain ⟨v1, v2, v3, hv⟩ : ∃ v1 v2 v3, resS (p : Int) sp = (v1, v2, v3) := ⟨_, _, _, rfl⟩
          obtain ⟨ob, hob⟩ : ∃ ob, okS sp = ob := ⟨_, rfl⟩
          simp only [hv, hob] at CS
          have HNo : Hid (ob = false → spotsN text ent H nn (P.take (k + 1)) = S) := fun h => by
            have h1 : sp.1 = 0 := by rw [h] at hob; simpa [okS] using hob
            rw [HSt.out, if_pos h1, List.append_nil]
          have HYes : Hid (ob = true → spotsN text ent H nn (P.take (k + 1)) = S ++ [(v1, v2, v3)]) := fun h => by
            have h1 : ¬ sp.1 = 0 := by rw [h] at hob; simpa [okS] using hob
            rw [HSt.out, if_neg h1, ← hv]
            unfold resS
            rw [if_neg h1]
          clear hv hob hsp HSt hp hpn
          have BX : Below V.heap.size V V.drew := (Below.refl _ _).drew
          go_upto_region 12 with fail
          go_cut [11, 12] (fun v11 v12 wc => ∃ b : Nat, v11 = .pointer (some ⟨b, 0, none⟩) ∧ v12 = .bool ob ∧ wc.cell? ⟨b, 0, none⟩ = some (.int .i64 v1) ∧ wc.cell? ⟨b, 1, none⟩ = some (.int .i8 v2) ∧ wc.cell? ⟨b, 2, none⟩ = some (.int .i8 v3) ∧ Hid (Below V.heap.size V wc))
          case first =>
            go_region_held3 (fun W => Below V.heap.size V W ∧ ((W.cell? ⟨w.heap.size, 0, none⟩ = some (.slice (some a1) text.length c1) ∧ W.cell? ⟨w.heap.size, 1, none⟩ = some (.int .i64 ent) ∧ W.cell? ⟨w.heap.size, 2, none⟩ = some (.slice A2 ml c2)) ∧ W.cell? ⟨w.heap.size, 3, none⟩ = some (.slice Ab (blkL text ent).length cb) ∧ W.cell? ⟨w.heap.size, 4, none⟩ = some (.slice (some ah) text.length text.length)) ∧ W.cell? (aP.add k) = some (.int .i64 (p : Int))) ((refine HLk.out _ ?_; (repeat (first | (with_reducible (first | assumption | exact Below.refl _ _ | exact (‹Below _ _ _ ∧ _›).1 | apply Below.drew | apply lb_alloc | (refine Below.setCell ?_ ?_ _) | refine lb_trans ?_ hb)) | exact Nat.le_refl _ | exact hz2 | omega | (simp; done) | (simp; omega))); done)) ((go_at_call 22; refine (CS _ (by first | exact BX | exact (‹Below _ _ _ ∧ _›).1)).mono ?_; rintro e w1 ⟨rfl, hb⟩; have hz := hb.size; have hz2 : V.heap.size ≤ w1.heap.size := (by simp at hz; omega); (first | (refine have_c3 (V.heap.size) (.int .i64 0) (.int .i8 0) (.int .i8 0) hb ?_ ?_; (refine ⟨⟨?_, ?_⟩, ⟨?_, ?_⟩, ⟨?_, ?_⟩⟩ <;> (simp [go_sem]; done)); intro e0 e1 e2 e3 e4 e5) | skip)))
            all_goals (
              rename_i hS
              have sB : Hid _ := hS.1
              clear hS
              go_wp2_with fail
              go_meet
              exact ⟨_, rfl, rfl, by first | (simp [go_sem]; done) | (simp [go_sem, *]; done), by first | (simp [go_sem]; done) | (simp [go_sem, *]; done), by first | (simp [go_sem]; done) | (simp [go_sem, *]; done), sB⟩)
          case rest =>
            obtain ⟨b, rfl, rfl, t0, t1, t2, HBc⟩ := hcut
            clear CS BX HLk
            cases ob with
            | false =>
              have HSn : Hid (spotsN text ent H nn (P.take (k + 1)) = S) := HNo.out rfl
              clear HNo HYes t0 t1 t2
              go_wp2
              go_roundg g1
              case measure => omega
              case rel => exact ⟨k + 1, S, A, c, by omega, rfl, by go_num, by omega, HSn.out.symm, row_keep HRw.out HBc.out, lb_trans HB2.out HBc.out⟩
            | true =>
              have HSn : Hid (spotsN text ent H nn (P.take (k + 1)) = S ++ [(v1, v2, v3)]) := HYes.out rfl
              clear HNo HYes
              have HB4 : Hid (Below V0.heap.size V0 wc) := lb_trans HB2.out HBc.out
              have HR4 : Hid (wc.ownsRow V0.heap.size 54 3 (.slice A S.length c) S.length (spNews S)) := row_keep HRw.out HBc.out
              have HBa : Hid (Below V0.heap.size V0 (wc.alloc (.cells #[.int .i64 v1, .int .i8 v2, .int .i8 v3] 54))) := lb_alloc HB4.out _
              have HRa : Hid ((wc.alloc (.cells #[.int .i64 v1, .int .i8 v2, .int .i8 v3] 54)).ownsRow V0.heap.size 54 3 (.slice A S.length c) S.length (spNews S)) := row_keep HR4.out (lb_alloc (Below.refl _ _) _)
              go_wp2_with (at_builtin; go_loud (refine wpList_append_own _ rfl (.tmp 78) (.tmp 80) 38 rfl V0.heap.size 54 iS (.agg #[.int .i64 0, .int .i8 0, .int .i8 0]) 3 16 Tryz.underlying38 hi hz0 hz1 hz2 rfl (by decide) (.slice A S.length c) S.length (spNews S) rfl HRa.out ⟨wc.heap.size, 0, none⟩ 1 1 [.int .i64 v1, .int .i8 v2, .int .i8 v3] rfl rfl (fun j u hu => World.news_of_block (new_at (by simp)) j u hu) (sp_oneI v1 v2 v3) (by unfold maxLen; omega) (by omega) HBa.out.size ?_; intro x5 w5 hown hgrow _; have HB5 : Hid (Below V0.heap.size V0 w5) := HBa.out.grown hgrow HBa.out.size (fun b hb => (HRa.out.lt b hb).1); have HR5 : Hid (w5.ownsRow V0.heap.size 54 3 x5 (S.length + 1) (spNews S ++ [.int .i64 v1, .int .i8 v2, .int .i8 v3])) := hown; clear hown hgrow))
              obtain ⟨A6, c6, rfl, -⟩ := own_formS HR5.out
              go_roundg g1
              case measure => omega
              case rel => exact ⟨k + 1, S ++ [(v1, v2, v3)], A6, c6, by omega, by rw [List.length_append]; rfl, by go_num, by omega, HSn.out.symm, by unfold Hid; rw [spNews_app, List.length_append]; exact HR5.out, HB5⟩
        · obtain rfl : k = P.length := by omega
          have hlt2 : ¬ (P.length : Int) < (P.length : Int) := by omega
          have HE : Hid (S = spotsN text ent H nn P) := by
            unfold Hid
            rw [HSe.out, List.take_length]
          have HFin : Hid (∀ wx, wx = V → RssP text ent H (nn : Int) P w (.returned (.tuple #[.slice A S.length c, .bool true])) wx) := fun wx e => by
            subst e
            refine ⟨lb_trans HBw.out HB2.out, .inr ⟨HO.out, A, c, ?_, ?_⟩⟩
            · rw [Int.toNat_natCast, ← HE.out]
            · rw [Int.toNat_natCast, ← HE.out]; exact row_sps HRw.out
          go_wp2
          go_ret2
          exact HFin.out _ rfl

end Go.Proofs.YtmlhnnmelopleaaGreatDoor
