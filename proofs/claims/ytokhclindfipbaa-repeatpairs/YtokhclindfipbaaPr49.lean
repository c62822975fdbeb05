/-
  How many pairs, with a length, are the same; is each in one told sequence?
-/
import Derived.Test.YtokhclindfipbaaProg
import Derived.WalkKit
import Derived.WalkSpells
import Derived.WalkLawsBesides
import Derived.RowKit3
import Derived.Below
import Derived.Deep.QuietTactic
import Derived.BigQuiet
import Derived.WalkSmall
import Derived.Laws.Rows
import Derived.Test.YtokhclindfipbaaPr48
import Derived.Deep.LoopGhost
namespace Go.Proofs.Ytokhclindfipbaa
open Go.RowKit

theorem sumR_le {f : Nat → Nat} {M : Nat} : ∀ {n : Nat}, (∀ i, i < n → f i ≤ M) → sumR n f ≤ n * M
  | 0, _ => by simp [sumR]
  | n + 1, h => by
    rw [sumR, Nat.add_mul]
    have h1 := sumR_le (f := f) (M := M) (n := n) fun i hi => h i (by omega)
    have h2 := h n (by omega)
    omega
theorem cntE_le {nm : List Int} {en : Nat → Nat} (i k : Nat) : cntE nm en i k ≤ nm.length := by
  unfold cntE
  by_cases c : i = k
  · rw [if_pos c]; omega
  · rw [if_neg c]
    have := cpL_le (nm.drop i) (nm.drop k)
    rw [List.length_drop] at this
    unfold mE cpS
    omega
theorem mE_next {nm : List Int} {en : Nat → Nat} (h : EnP nm en) {p i k : Nat} (hi : i < nm.length) (hk : k < nm.length) (hp : p ≤ mE nm en i k) : p + 1 ≤ mE nm en i k ↔ i + p + 1 ≤ en i ∧ k + p + 1 ≤ en k ∧ nth nm (i + p) = nth nm (k + p) := by
  rw [mE_iff h hi hk]
  have hp := (mE_iff h hi hk).1 hp
  constructor
  · rintro ⟨x, y, z⟩
    exact ⟨by omega, by omega, z p (by omega)⟩
  · rintro ⟨x, y, z⟩
    refine ⟨by omega, by omega, fun t ht => ?_⟩
    by_cases e : t = p
    · rw [e]; exact z
    · exact hp.2.2 t (by omega)
def PrsP (s : Nat) (w : World) (e : Ending) (w' : World) : Prop := e = .returned (.tuple #[.int .i64 (s : Int), .bool true]) ∧ Below w.heap.size w w'
def smI (nm : List Int) (en : Nat → Nat) (i cf n : Nat) : Nat := sumR n fun t => cntE nm en i (cf + t)
theorem smI_succ (nm : List Int) (en : Nat → Nat) (i cf n : Nat) : smI nm en i cf (n + 1) = smI nm en i cf n + cntE nm en i (cf + n) := rfl
def smO (nm : List Int) (en : Nat → Nat) (bf cf m n : Nat) : Nat := sumR n fun s => smI nm en (bf + s) cf m
theorem smO_succ (nm : List Int) (en : Nat → Nat) (bf cf m n : Nat) : smO nm en bf cf m (n + 1) = smO nm en bf cf m n + smI nm en (bf + n) cf m := rfl
theorem smI_few {nm : List Int} {en : Nat → Nat} (hl : nm.length ≤ 64) {i cf n : Nat} (hn : n ≤ 64) : smI nm en i cf n ≤ 4096 := by
  have h := sumR_le (f := fun t => cntE nm en i (cf + t)) (M := 64) (n := n) fun t _ => Nat.le_trans (cntE_le _ _) hl
  have : n * 64 ≤ 64 * 64 := Nat.mul_le_mul_right 64 hn
  unfold smI
  omega
theorem smO_few {nm : List Int} {en : Nat → Nat} (hl : nm.length ≤ 64) {bf cf m n : Nat} (hm : m ≤ 64) (hn : n ≤ 64) : smO nm en bf cf m n ≤ 262144 := by
  have h := sumR_le (f := fun s => smI nm en (bf + s) cf m) (M := 4096) (n := n) fun t _ => smI_few hl hm
  have : n * 4096 ≤ 64 * 4096 := Nat.mul_le_mul_right 4096 hn
  unfold smO
  omega
set_option maxRecDepth 100000 in
set_option maxHeartbeats 16000000 in
theorem pairs_any (A An : Option Addr) (ca cn : Nat) (PT : List Tp) (nm : List Int) (en : Nat → Nat) (bf bt cf ct : Nat) (w : World) (hA : TpsAt w A PT) (hl : PT.length ≤ 1048576) (hL : ∀ j, j < PT.length → (pth PT j).1.2.length ≤ 1048576) (hN : IntsAt w An .i64 nm) (hn : nm.length ≤ 64) (he : EnP nm en) (hb1 : bf ≤ bt) (hb2 : bt ≤ nm.length) (hc1 : cf ≤ ct) (hc2 : ct ≤ nm.length) (heb : ∀ i, bf ≤ i → i < bt → en i = bt) (hec : ∀ i, cf ≤ i → i < ct → en i = ct)
    (hu : ∀ n i k, i < nm.length → k < nm.length → i ≠ k → 2 ≤ n → n ≤ mE nm en i k → togN n i k (fsts PT) = 1) :
    Calls Try.prog 10 #[.slice A PT.length ca, .slice An nm.length cn, .agg #[.int .i64 (bf : Int), .int .i64 (bt : Int)], .agg #[.int .i64 (cf : Int), .int .i64 (ct : Int)]] w (PrsP (smO nm en bf cf (ct - cf) (bt - bf)) w) := by
  obtain ⟨X, hX⟩ : ∃ X, (w.alloc (.cells #[.int .i64 (bf : Int), .int .i64 (bt : Int)] 43)).alloc (.cells #[.int .i64 (cf : Int), .int .i64 (ct : Int)] 43) = X := ⟨_, rfl⟩
  have hB : Below w.heap.size w X := by rw [← hX]; exact lb_alloc (lb_alloc (Below.refl _ _) _) _
  have a0 : X.cell? ⟨w.heap.size, 0, none⟩ = some (.int .i64 (bf : Int)) := by rw [← hX]; simp [go_sem]
  have a1 : X.cell? ⟨w.heap.size, 1, none⟩ = some (.int .i64 (bt : Int)) := by rw [← hX]; simp [go_sem]
  have b0 : X.cell? ⟨w.heap.size + 1, 0, none⟩ = some (.int .i64 (cf : Int)) := by rw [← hX]; simp [go_sem]
  have b1 : X.cell? ⟨w.heap.size + 1, 1, none⟩ = some (.int .i64 (ct : Int)) := by rw [← hX]; simp [go_sem]
  have HX : Hid _ := hX
  have HB : Hid (Below w.heap.size w X) := hB
  have HNm : Hid (IntsAt X An .i64 nm) := hN.keep hB
  have hAX := hA.keep hB
  have HTG : Hid (∀ (p i k : Nat) (W : World), Below X.heap.size X W → Calls Try.prog 25 #[.slice A PT.length ca, .int .i64 ((p : Int) + 1), .int .i64 (i : Int), .int .i64 (k : Int)] W (TogP (decide (togN (p + 1) i k (fsts PT) = 1)) W)) := fun p i k W hb => together_any A ca PT (p + 1) i k W (hAX.keep hb) hl hL
  have HU : Hid _ := hu
  have HEn : Hid (EnP nm en) := he
  have HEb : Hid _ := heb
  have HEc : Hid _ := hec
  clear hA hAX hL hN hu he heb hec hX hB
  have g1 : ¬ (nm.length : Int) < (bt : Int) := by omega
  have g2 : ¬ (nm.length : Int) < (ct : Int) := by omega
  have g3 : ¬ (bf : Int) < 0 := by omega
  have g4 : ¬ (cf : Int) < 0 := by omega
  go_enter Try.func10, Try.ntmps10
  go_upto_region 1 with fail
  rw [HX.out]
  clear HX
  go_wp2
  go_loopw [10, 11] (fun v x wr => ∃ (c s d : Nat), v = .int .i64 (c : Int) ∧ x = .int .i64 ((bf + s : Nat) : Int) ∧ bf + s ≤ bt ∧ Hid (c = smO nm en bf cf (ct - cf) s) ∧ wr = X.drewN d) (fun _ x _ => bt - (intOf x).toNat)
  case atStart => exact ⟨0, 0, 0, rfl, rfl, hb1, rfl, rfl⟩
  case round =>
    obtain ⟨c, s, d, rfl, rfl, hs, HC, rfl⟩ := hrel
    have hcf := smO_few (nm := nm) (en := en) (bf := bf) (cf := cf) (m := ct - cf) (n := s) hn (by omega) (by omega)
    rw [← HC.out] at hcf
    obtain ⟨i, hi⟩ : ∃ i, i = bf + s := ⟨_, rfl⟩
    rw [← hi] at hs ⊢
    have HI : Hid (i = bf + s) := hi
    clear hi
    by_cases hlt : i < bt
    · have hlt' : (i : Int) < (bt : Int) := by omega
      have HC1 : Hid (smO nm en bf cf (ct - cf) (s + 1) = c + smI nm en i cf (ct - cf)) := by unfold Hid; rw [smO_succ, ← HC.out, HI.out]
      clear HC
      go_wp2
      go_loopw [10, 12] (fun v x wr => ∃ (c2 t d2 : Nat), v = .int .i64 (c2 : Int) ∧ x = .int .i64 ((cf + t : Nat) : Int) ∧ cf + t ≤ ct ∧ Hid (c2 = c + smI nm en i cf t) ∧ wr = X.drewN d2) (fun _ x _ => ct - (intOf x).toNat)
      case atStart => exact ⟨c, 0, d, rfl, rfl, hc1, rfl, rfl⟩
      case round =>
        obtain ⟨c2, t, d2, rfl, rfl, ht, HC2, rfl⟩ := hrel
        have hcf2 := smI_few (nm := nm) (en := en) (i := i) (cf := cf) (n := t) hn (by omega)
        have hc3 : c2 ≤ 270000 := by have := HC2.out; omega
        obtain ⟨k, hk⟩ : ∃ k, k = cf + t := ⟨_, rfl⟩
        rw [← hk] at ht ⊢
        have HK : Hid (k = cf + t) := hk
        clear hk hcf2
        by_cases hlt2 : k < ct
        · have hlt2' : (k : Int) < (ct : Int) := by omega
          have HC3 : Hid (c + smI nm en i cf (t + 1) = c2 + cntE nm en i k) := by unfold Hid; rw [smI_succ, HC2.out, HK.out]; omega
          clear HC2
          by_cases hik : i = k
          · have HC4 : Hid (c2 = c + smI nm en i cf (t + 1)) := by
              unfold Hid
              rw [HC3.out]
              unfold cntE
              rw [if_pos hik]
              omega
            have hk1 : k + 1 ≤ ct := by omega
            have HK1 : Hid (k + 1 = cf + (t + 1)) := by have := HK.out; unfold Hid; omega
            subst hik
            clear HC3 HK
            go_wp2
            go_roundw
            case rel => exact ⟨c2, t + 1, d2, rfl, by rw [← HK1.out]; go_num, by rw [← HK1.out]; exact hk1, HC4, rfl⟩
            case measure => simp [intOf]; omega
          · have hik' : ¬ (i : Int) = (k : Int) := by omega
            have heni := HEb.out i (by have := HI.out; omega) hlt
            have henk := HEc.out k (by have := HK.out; omega) hlt2
            have hNX : ∀ {p : Nat}, p ≤ mE nm en i k → (p + 1 ≤ mE nm en i k ↔ i + p + 1 ≤ bt ∧ k + p + 1 ≤ ct ∧ nth nm (i + p) = nth nm (k + p)) := fun {p} hp => by
              have := mE_next HEn.out (show i < nm.length by omega) (show k < nm.length by omega) hp
              rw [heni, henk] at this
              exact this
            have HNX : Hid (∀ {p : Nat}, p ≤ mE nm en i k → (p + 1 ≤ mE nm en i k ↔ i + p + 1 ≤ bt ∧ k + p + 1 ≤ ct ∧ nth nm (i + p) = nth nm (k + p))) := @hNX
            have HUI : Hid (∀ p, 2 ≤ p + 1 → p + 1 ≤ mE nm en i k → togN (p + 1) i k (fsts PT) = 1) := fun p h1 h2 => HU.out (p + 1) i k (by omega) (by omega) hik h1 h2
            have HC4 : Hid (c2 + (mE nm en i k - 1) = c + smI nm en i cf (t + 1)) := by
              unfold Hid
              rw [HC3.out]
              unfold cntE
              rw [if_neg hik]
            have HK1 : Hid (k + 1 = cf + (t + 1)) := by have := HK.out; unfold Hid; omega
            have hml : mE nm en i k ≤ 64 := by
              have := (mE_iff HEn.out (show i < nm.length by omega) (show k < nm.length by omega) (n := mE nm en i k)).1 (Nat.le_refl _)
              have h2 := HEn.out.le i (by omega)
              omega
            have hikb : ((i : Int) == (k : Int)) = false := by simpa using hik'
            clear hNX heni henk HC3 HK
            generalize mE nm en i k = m at *
            go_wp2
            go_loopw [10, 13] (fun v x wr => ∃ (c3 p d3 : Nat), v = .int .i64 (c3 : Int) ∧ x = .int .i64 ((p : Int) + 1) ∧ p ≤ m ∧ Hid (c3 = c2 + (p - 1)) ∧ wr = X.drewN d3) (fun _ x _ => m + 1 - (intOf x).toNat)
            case atStart => exact ⟨c2, 0, d2, rfl, rfl, Nat.zero_le _, rfl, rfl⟩
            case round =>
              obtain ⟨c3, p, d3, rfl, rfl, hp, HC5, rfl⟩ := hrel
              have hnx := HNX.out hp
              have hc5 : c3 ≤ 280000 := by have := HC5.out; omega
              obtain ⟨q, hq⟩ : ∃ q, q = i + p := ⟨_, rfl⟩
              obtain ⟨r, hr⟩ : ∃ r, r = k + p := ⟨_, rfl⟩
              rw [← hq, ← hr] at hnx
              have e1 : (i : Int) + ((p : Int) + 1) = (q : Int) + 1 := by omega
              have e2 : (k : Int) + ((p : Int) + 1) = (r : Int) + 1 := by omega
              have hq1 : q ≤ 200 := by omega
              have hr1 : r ≤ 200 := by omega
              have hp1 : p ≤ 64 := by omega
              clear hq hr
              by_cases h1 : q + 1 ≤ bt
              · have h1' : (q : Int) + 1 ≤ (bt : Int) := by omega
                have hd1 : decide ((q : Int) + 1 ≤ (bt : Int)) = true := decide_eq_true h1'
                by_cases h2 : r + 1 ≤ ct
                · have h2' : (r : Int) + 1 ≤ (ct : Int) := by omega
                  have hd2 : decide ((r : Int) + 1 ≤ (ct : Int)) = true := decide_eq_true h2'
                  obtain ⟨a, ea, y0⟩ := HNm.out q (by omega)
                  subst ea
                  obtain ⟨a', ea', y1⟩ := HNm.out r (by omega)
                  cases ea'
                  have hql : (q : Int) < (nm.length : Int) := by omega
                  have hrl : (r : Int) < (nm.length : Int) := by omega
                  by_cases h3 : nth nm q = nth nm r
                  · have hpm : p + 1 ≤ m := hnx.2 ⟨h1, h2, h3⟩
                    rw [← h3] at y1
                    clear hnx h3
                    generalize nth nm q = z at *
                    go_wp2_with fail
                    go_quiet (fail)
                    by_cases h0 : p < 1
                    · have h0' : (p : Int) + 1 < 2 := by omega
                      have HC6 : Hid (c3 = c2 + (p + 1 - 1)) := by have := HC5.out; unfold Hid; omega
                      clear HC5
                      go_wp2
                      go_roundw
                      case rel => exact ⟨c3, p + 1, _, rfl, by go_num, hpm, HC6, rfl⟩
                      case measure => simp [intOf]; omega
                    · have h0' : ¬ (p : Int) + 1 < 2 := by omega
                      have HC6 : Hid (c3 + 1 = c2 + (p + 1 - 1)) := by have := HC5.out; unfold Hid; omega
                      have CT := HTG.out p i k (X.drewN (d3 + nq)) (below_drewN (Below.refl X.heap.size X) (d3 + nq))
                      rw [HUI.out p (by omega) hpm] at CT
                      have CT2 : Calls Try.prog 25 #[.slice A PT.length ca, .int .i64 ((p : Int) + 1), .int .i64 (i : Int), .int .i64 (k : Int)] (X.drewN (d3 + nq)) (TogP true (X.drewN (d3 + nq))) := CT
                      clear CT HC5
                      go_wp2_with fail
                      refine CT2.mono ?_
                      rintro e w5 ⟨rfl, e5⟩
                      subst e5
                      go_wp2
                      go_roundw
                      case rel => exact ⟨c3 + 1, p + 1, _, by go_num, by go_num, hpm, HC6, rfl⟩
                      case measure => simp [intOf]; omega
                  · have h3' : ¬ (nth nm q = nth nm r) := h3
                    have HC6 : Hid (c3 = c + smI nm en i cf (t + 1)) := by
                      have hpm : p = m := by
                        have h9 : ¬ p + 1 ≤ m := fun x => h3 (hnx.1 x).2.2
                        omega
                      have := HC4.out
                      have := HC5.out
                      unfold Hid
                      omega
                    have hk1 : k + 1 ≤ ct := by omega
                    have hk2 : ((k : Int) + 1) = ((cf + (t + 1) : Nat) : Int) := by have := HK1.out; omega
                    clear hnx HC5 HC4
                    generalize nth nm q = z at *
                    generalize nth nm r = z' at *
                    have h4 : (z == z') = false := by simpa using h3'
                    go_wp2_with fail
                    go_quiet (fail)
                    go_wp2
                    exact ⟨⟨c3, t + 1, _, rfl, congrArg (Value.int .i64) (by have := hk2; omega), by rw [← HK1.out]; exact hk1, HC6, rfl⟩, by simp [intOf]; omega⟩
                · have h2' : ¬ (r : Int) + 1 ≤ (ct : Int) := by omega
                  have hd2 : decide ((r : Int) + 1 ≤ (ct : Int)) = false := decide_eq_false h2'
                  have HC6 : Hid (c3 = c + smI nm en i cf (t + 1)) := by
                    have hpm : p = m := by
                      have h9 : ¬ p + 1 ≤ m := fun x => h2 (hnx.1 x).2.1
                      omega
                    have := HC4.out
                    have := HC5.out
                    unfold Hid
                    omega
                  have hk1 : k + 1 ≤ ct := by omega
                  have hk2 : ((k : Int) + 1) = ((cf + (t + 1) : Nat) : Int) := by have := HK1.out; omega
                  clear hnx HC5 HC4
                  go_wp2_with fail
                  go_quiet (fail)
                  go_wp2
                  exact ⟨⟨c3, t + 1, _, rfl, congrArg (Value.int .i64) (by have := hk2; omega), by rw [← HK1.out]; exact hk1, HC6, rfl⟩, by simp [intOf]; omega⟩
              · have h1' : ¬ (q : Int) + 1 ≤ (bt : Int) := by omega
                have hd1 : decide ((q : Int) + 1 ≤ (bt : Int)) = false := decide_eq_false h1'
                have HC6 : Hid (c3 = c + smI nm en i cf (t + 1)) := by
                  have hpm : p = m := by
                    have h9 : ¬ p + 1 ≤ m := fun x => h1 (hnx.1 x).1
                    omega
                  have := HC4.out
                  have := HC5.out
                  unfold Hid
                  omega
                have hk1 : k + 1 ≤ ct := by omega
                have hk2 : ((k : Int) + 1) = ((cf + (t + 1) : Nat) : Int) := by have := HK1.out; omega
                clear hnx HC5 HC4
                go_wp2_with fail
                go_quiet (fail)
                go_wp2
                exact ⟨⟨c3, t + 1, _, rfl, congrArg (Value.int .i64) (by have := hk2; omega), by rw [← HK1.out]; exact hk1, HC6, rfl⟩, by simp [intOf]; omega⟩
        · obtain rfl : k = ct := by omega
          have hlt2' : ¬ (k : Int) < (k : Int) := by omega
          have HC3 : Hid (c2 = smO nm en bf cf (k - cf) (s + 1)) := by
            unfold Hid
            rw [HC1.out, HC2.out, show k - cf = t by have := HK.out; omega]
          have hi1 : i + 1 ≤ bt := by omega
          have hi2 : i + 1 = bf + (s + 1) := by have := HI.out; omega
          clear HC1 HC2
          go_wp2
          exact ⟨⟨c2, s + 1, _, rfl, congrArg (Value.int .i64) (by omega), by omega, HC3, rfl⟩, by simp [intOf]; omega⟩
    · obtain rfl : i = bt := by omega
      have hlt' : ¬ (i : Int) < (i : Int) := by omega
      have HC1 : Hid (c = smO nm en bf cf (ct - cf) (i - bf)) := by
        unfold Hid
        rw [HC.out, show i - bf = s by have := HI.out; omega]
      clear HC
      go_wp2
      go_ret2
      refine ⟨by rw [← HC1.out]; rfl, below_drewN HB.out _⟩

end Go.Proofs.Ytokhclindfipbaa
