/-
  What can be reached, plain; how it is counted. EqInts: two lists of ints. eq and EqBools of the statements: lists that are the same.
-/
import Derived.Test.YtgkdagnpefgjcaaProg
import Derived.WalkKit
import Derived.WalkSpells
import Derived.WalkLawsBesides
import Derived.RowKit3
import Derived.Below
import Derived.Deep.QuietTactic
import Derived.BigQuiet
import Derived.WalkSmall
import Derived.Laws.Rows
import Derived.Test.YtgkdagnpefgjcaaPl12
import Derived.Test.YtgkdagnpefgjcaaPl13
import Derived.Test.YtgkdagnpefgjcaaPl01
import Derived.Deep.RegionHeld3
import Derived.Deep.RegionWith
import Derived.Test.YtgkdagnpefgjcaaPl11
namespace Go.Proofs.Ytgkdagnpefgjcaa
open Go.RowKit

/-- The blocks that can be reached. -/
inductive Rch (L : List (List Int)) (e : Int) : Int → Prop
  | base : Rch L e e
  | step {i x : Int} : Rch L e i → 0 ≤ i → x ∈ rowZ L i.toNat → Rch L e x
open Classical in
noncomputable def rchF (L : List (List Int)) (e : Int) (x : Int) : Bool := decide (Rch L e x)
open Classical in
theorem rchF_iff {L : List (List Int)} {e x : Int} : rchF L e x = true ↔ Rch L e x := by
  unfold rchF
  exact decide_eq_true_iff
/-- Only what can be reached is marked, and the first one is. -/
structure Snd (L : List (List Int)) (e : Int) (F : Int → Bool) : Prop where
  here : F e = true
  snd : ∀ x, F x = true → Rch L e x
/-- From what is marked, up to n, nothing leads out. -/
def Cls (L : List (List Int)) (F : Int → Bool) (n : Nat) : Prop := ∀ i : Nat, i < n → F (i : Int) = true → ∀ t, t < (rowZ L i).length → F (nth (rowZ L i) t) = true
theorem rowZ_out {L : List (List Int)} {i : Nat} {x : Int} (h : x ∈ rowZ L i) : i < L.length := by
  unfold rowZ at h
  by_cases hi : i < L.length
  · exact hi
  · rw [List.getD_eq_getElem?_getD, List.getElem?_eq_none (by omega)] at h
    simp at h
theorem rch_in {L : List (List Int)} {e : Int} {F : Int → Bool} (h : Snd L e F) (hc : Cls L F L.length) {x : Int} (hx : Rch L e x) : F x = true := by
  induction hx with
  | base => exact h.here
  | step _ h0 hm ih =>
    have hl := rowZ_out hm
    obtain ⟨t, ht, e⟩ := mem_nth hm
    rw [← e]
    refine hc _ hl ?_ t ht
    rw [show ((Int.toNat _ : Nat) : Int) = _ from Int.toNat_of_nonneg h0]
    exact ih
theorem rch_same {L : List (List Int)} {e : Int} {F : Int → Bool} (h : Snd L e F) (hc : Cls L F L.length) (x : Int) : F x = rchF L e x := by
  rw [Bool.eq_iff_iff, rchF_iff]
  exact ⟨h.snd x, rch_in h hc⟩
theorem snd_zero (L : List (List Int)) (e : Int) : Snd L e (setF noF e) := ⟨by simp [setF], fun x hx => by
  have : x = e := by simpa [setF, noF] using hx
  rw [this]
  exact .base⟩
theorem Snd.more {L : List (List Int)} {e : Int} {F : Int → Bool} (h : Snd L e F) {i t : Nat} (hi : F (i : Int) = true) (ht : t < (rowZ L i).length) : Snd L e (setF F (nth (rowZ L i) t)) := ⟨by simp [setF, h.here], fun x hx => by
  have hx' : x = nth (rowZ L i) t ∨ F x = true := by simpa [setF] using hx
  rcases hx' with rfl | hx'
  · exact .step (h.snd _ hi) (by omega) (by simpa using nth_mem ht)
  · exact h.snd x hx'⟩
/-- How many are not marked. -/
def lowN (F : Int → Bool) : Nat → Nat
  | 0 => 0
  | n + 1 => lowN F n + (if F (n : Int) then 0 else 1)
theorem lowN_le {F G : Int → Bool} {n : Nat} (h : ∀ i : Nat, i < n → F (i : Int) = true → G (i : Int) = true) : lowN G n ≤ lowN F n := by
  induction n with
  | zero => exact Nat.le_refl _
  | succ n ih =>
    have h1 := ih fun i hi => h i (by omega)
    have h2 := h n (by omega)
    unfold lowN
    cases hf : F (n : Int) with
    | true => rw [h2 hf]; simpa using h1
    | false => cases G (n : Int) <;> simp <;> omega
theorem lowN_same {F G : Int → Bool} {n : Nat} (h : ∀ i : Nat, i < n → F (i : Int) = G (i : Int)) : lowN F n = lowN G n :=
  Nat.le_antisymm (lowN_le fun i hi e => by rw [h i hi]; exact e) (lowN_le fun i hi e => by rw [← h i hi]; exact e)
theorem lowN_set {F : Int → Bool} {n : Nat} {x : Int} (h0 : 0 ≤ x) (h1 : x < (n : Int)) (hF : F x = false) : lowN (setF F x) n < lowN F n := by
  induction n with
  | zero => omega
  | succ n ih =>
    unfold lowN
    by_cases e : x = (n : Int)
    · have h2 : lowN (setF F x) n ≤ lowN F n := lowN_le fun i _ h => by simp [setF, h]
      rw [← e, hF, show setF F x x = true by simp [setF]]
      simp
      omega
    · have h2 := ih (by omega)
      have h3 : setF F x (n : Int) = F (n : Int) := by
        unfold setF
        rw [show ((n : Int) == x) = false by rw [beq_eq_false_iff_ne]; omega]
        rfl
      rw [h3]
      omega
/-- What a row of bools holds, read off the world. -/
def cellF (w : World) (g : Nat) (x : Int) : Bool := match w.cell? ⟨g, x.toNat, none⟩ with
  | some (.bool b) => b
  | _ => false
theorem BlsAt.low {w : World} {g n : Nat} {F : Int → Bool} (h : BlsAt w g n F) : lowN (cellF w g) n = lowN F n := lowN_same fun i hi => by
  unfold cellF
  rw [h.cell (x := (i : Int)) (by omega) (by omega)]
def bolOf : Value → Nat
  | .bool true => 1
  | _ => 0
/-- How a round has come on. -/
def Onw (L : List (List Int)) (n : Nat) (F G : Int → Bool) (m : Bool) (k : Nat) : Prop := (m = false → G = F ∧ Cls L F k) ∧ (m = true → lowN G n < lowN F n)
def Onw2 (L : List (List Int)) (n : Nat) (F G : Int → Bool) (m : Bool) (k j : Nat) : Prop := (m = false → G = F ∧ Cls L F k ∧ ∀ t, t < j → F (nth (rowZ L k) t) = true) ∧ (m = true → lowN G n < lowN F n)
theorem Onw.zero (L : List (List Int)) (n : Nat) (F : Int → Bool) : Onw L n F F false 0 := ⟨fun _ => ⟨rfl, fun _i hi => absurd hi (Nat.not_lt_zero _)⟩, fun h => by cases h⟩
theorem Onw.start {L : List (List Int)} {n : Nat} {F G : Int → Bool} {m : Bool} {k : Nat} (h : Onw L n F G m k) : Onw2 L n F G m k 0 := ⟨fun e => ⟨(h.1 e).1, (h.1 e).2, fun _t ht => absurd ht (Nat.not_lt_zero _)⟩, h.2⟩
theorem Onw2.stop {L : List (List Int)} {n : Nat} {F G : Int → Bool} {m : Bool} {k j : Nat} (h : Onw2 L n F G m k j) (hj : (rowZ L k).length ≤ j ∨ G (k : Int) = false) : Onw L n F G m (k + 1) := ⟨fun e => by
  obtain ⟨h1, h2, h3⟩ := h.1 e
  refine ⟨h1, fun i hi hf t ht => ?_⟩
  by_cases e2 : i = k
  · subst e2
    rcases hj with hj | hj
    · exact h3 t (by omega)
    · rw [h1, hf] at hj; cases hj
  · exact h2 i (by omega) hf t ht, h.2⟩
theorem Onw2.met {L : List (List Int)} {n : Nat} {F G : Int → Bool} {m : Bool} {k j : Nat} (h : Onw2 L n F G m k j) (hx : G (nth (rowZ L k) j) = true) : Onw2 L n F G m k (j + 1) := ⟨fun e => by
  obtain ⟨h1, h2, h3⟩ := h.1 e
  refine ⟨h1, h2, fun t ht => ?_⟩
  by_cases e2 : t = j
  · rw [e2, ← h1]; exact hx
  · exact h3 t (by omega), h.2⟩
theorem Onw2.new {L : List (List Int)} {n : Nat} {F G : Int → Bool} {m : Bool} {k j j' : Nat} {x : Int} (h : Onw2 L n F G m k j) (h0 : 0 ≤ x) (h1 : x < (n : Int)) (hx : G x = false) : Onw2 L n F (setF G x) true k j' := by
  have h2 := lowN_set h0 h1 hx
  refine ⟨fun e => (by cases e), fun _ => ?_⟩
  cases m with
  | true => have := h.2 rfl; omega
  | false => have := (h.1 rfl).1; subst this; exact h2
theorem Onw.done {L : List (List Int)} {n : Nat} {F G : Int → Bool} {m : Bool} {k : Nat} (h : Onw L n F G m k) (e : m = false) : Cls L G k := by
  obtain ⟨h1, h2⟩ := h.1 e
  rw [h1]; exact h2
theorem edg_row {text : List Int} {ent : Int} {n k : Nat} (hk : k < n) : rowZ (edgT text ent n) k = plcT (edgR text ent k) (blkL text ent).length := rowZ_map hk
theorem edg_in {text : List Int} {ent : Int} {n k t : Nat} (hk : k < n) (ht : t < (rowZ (edgT text ent n) k).length) : 0 ≤ nth (rowZ (edgT text ent n) k) t ∧ nth (rowZ (edgT text ent n) k) t < ((blkL text ent).length : Int) := by
  have h := nth_mem ht
  rw [edg_row hk] at h ⊢
  exact ⟨(plcT_mem.1 h).1, (plcT_mem.1 h).2.1⟩
theorem beg_ent (text : List Int) (ent : Int) : begF text ent ent = true := by simp [begF, addK, setF]
theorem ent_blk {text : List Int} {ent : Int} (h0 : 0 ≤ ent) (h1 : ent < (text.length : Int)) : ∃ k : Nat, k < (blkL text ent).length ∧ ofB (blkL text ent) ent = (k : Int) := by
  obtain ⟨k, hk, e, _⟩ := blk_begin (f := begF text ent) (n := text.length) (plcT_mem.2 ⟨h0, h1, beg_ent text ent⟩)
  exact ⟨k, hk, e⟩
theorem below_setAt {B : Nat} {w w1 : World} (h : Below B w w1) {g i : Nat} {v : Value} (hg : B ≤ g) (hB : B ≤ w1.heap.size) : Below B w (w1.setCell ⟨g, i, none⟩ v) := grown_belowR h (gset11 _ _ _ _) hg hB


end Go.Proofs.Ytgkdagnpefgjcaa

namespace Go.Proofs.Ytgkdagnpefgjcaa
open Go.RowKit

set_option maxRecDepth 100000 in
set_option maxHeartbeats 1000000 in
theorem eqints_any (A B : Option Addr) (ca cb : Nat) (zs ys : List Int) (w : World) (hA : IntsAt w A .i64 zs) (hB : IntsAt w B .i64 ys) (hz : zs.length ≤ 1048576) :
    Calls Try.prog 30 #[.slice A zs.length ca, .slice B ys.length cb] w fun e w' => e = .returned (.bool (decide (zs = ys))) ∧ Below w.heap.size w w' := by
  by_cases hl : zs.length = ys.length
  · have hl' : ((zs.length : Int) == (ys.length : Int)) = true := by rw [hl]; simp
    have HL : Hid (zs.length = ys.length) := hl
    clear hl
    go_enter Try.func30, Try.ntmps30
    go_wp2
    go_loopw [5] (fun i wr => ∃ (k m : Nat), i = .int .i64 k ∧ k ≤ zs.length ∧ wr = w.drewN m ∧ Hid (zs.take k = ys.take k)) (fun i _ => zs.length - (intOf i).toNat)
    case atStart => exact ⟨0, 0, rfl, by omega, rfl, by simp [Hid]⟩
    case round =>
      obtain ⟨k, m, rfl, hk, rfl, HT⟩ := hrel
      by_cases hlt : k < zs.length
      · obtain ⟨a, rfl, c1⟩ := hA k hlt
        obtain ⟨b, rfl, c2⟩ := hB k (by have := HL.out; omega)
        have hlt2 : (k : Int) < (ys.length : Int) := by have := HL.out; omega
        by_cases he : nth zs k = nth ys k
        · have HE : Hid (nth zs k = nth ys k) := he
          have he' : (nth zs k == nth ys k) = true := by simpa using he
          clear he
          go_wp2_with fail
          go_quiet (fail)
          go_wp2
          go_roundw
          case rel => exact ⟨k + 1, _, by go_num, by omega, rfl, take_same HT.out hlt (by omega) HE.out⟩
          case measure => simp [intOf]; omega
        · have HE : Hid (¬ nth zs k = nth ys k) := he
          have he' : (nth zs k == nth ys k) = false := by simpa using he
          clear he
          go_wp2_with fail
          go_quiet (fail)
          go_wp2
          go_ret
          exact ⟨retB (decide_eq_false (nth_ne HE.out)).symm, below_drewN (below_drewN (Below.refl _ _) _) _⟩
      · go_wp2
        go_ret
        exact ⟨retB (decide_eq_true (take_all HT.out (by omega) HL.out)).symm, below_drewN (Below.refl _ _) _⟩
  · have hl' : ((zs.length : Int) == (ys.length : Int)) = false := by simp; omega
    have HL : Hid (¬ zs.length = ys.length) := hl
    clear hl
    go_enter Try.func30, Try.ntmps30
    go_wp2
    go_ret
    exact ⟨retB (decide_eq_false (fun h => HL.out (by rw [h]))).symm, Below.refl _ _⟩





end Go.Proofs.Ytgkdagnpefgjcaa

namespace Go.Proofs.Ytgkdagnpefgjcaa
open Go.RowKit

set_option maxRecDepth 100000 in
set_option maxHeartbeats 2000000 in
theorem eq_same (A B : Option Addr) (ca cb : Nat) (L : List (List Int)) (w : World) (hA : IntsZ w A L) (hB : IntsZ w B L) (hn : L.length ≤ 65536) (hr : ∀ i, i < L.length → (rowZ L i).length ≤ 65536) :
    Calls Try.prog 13 #[.slice A L.length ca, .slice B L.length cb] w fun e w' => e = .returned (.bool true) ∧ Below w.heap.size w w' := by
  have HA : Hid (IntsZ w A L) := hA
  have HB : Hid (IntsZ w B L) := hB
  have HR : Hid _ := hr
  clear hA hB hr
  go_enter Try.func13, Try.ntmps13
  go_wp2
  go_loopw [5] (fun i wr => ∃ k : Nat, i = .int .i64 k ∧ k ≤ L.length ∧ Hid (Below w.heap.size w wr)) (fun i _ => L.length - (intOf i).toNat)
  case atStart => exact ⟨0, rfl, Nat.zero_le _, Below.refl _ _⟩
  case round =>
    obtain ⟨k, rfl, hk, HW⟩ := hrel
    by_cases hlt : k < L.length
    · have hlt' : (k : Int) < (L.length : Int) := by omega
      obtain ⟨a, R, kr, ea, c1, r1⟩ := (HA.out.keep HW.out) k hlt
      obtain ⟨b, S, ks, eb, c2, r2⟩ := (HB.out.keep HW.out) k hlt
      subst ea eb
      have C := fun wx (hx : Below wr.heap.size wr wx) => eqints_any R S kr ks (rowZ L k) (rowZ L k) wx (r1.keep hx) (r2.keep hx) (by have := HR.out k hlt; omega)
      simp only [decide_true] at C
      generalize (rowZ L k).length = rn at *
      have hWW := Below.refl wr.heap.size wr
      go_upto_region 6 with fail
      go_region_held3 (fun W => Below wr.heap.size wr W ∧ W.cell? (a.add k) = some (.slice R rn kr) ∧ W.cell? (b.add k) = some (.slice S rn ks))
        (first | (refine ⟨?_, lkeep ?_ c1, lkeep ?_ c2⟩ <;> ((repeat (first | assumption | exact (‹Below _ _ _ ∧ _›).1 | apply Below.drew | apply lb_alloc)); done)))
        (first | (go_at_call 30; refine (C _ (by first | assumption | exact (‹Below _ _ _ ∧ _›).1 | exact Below.drew (Below.refl _ _))).mono ?_; rintro e w1 ⟨rfl, hb1⟩; have HB1 : Hid (Below wr.heap.size wr w1) := lb_trans (by first | assumption | exact (‹Below _ _ _ ∧ _›).1 | exact Below.drew (Below.refl _ _)) hb1; clear hb1))
      all_goals (
        go_wp2_with fail
        go_roundw
        case rel => exact ⟨k + 1, by go_num, by omega, lb_trans HW.out HB1.out⟩
        case measure => simp [intOf]; omega)
    · obtain rfl : k = L.length := by omega
      go_wp2
      go_ret
      exact ⟨rfl, HW.out⟩
/-- A row of bools, to be read. -/
def BolsAt (w : World) (A : Option Addr) (n : Nat) (F : Int → Bool) : Prop := ∀ i : Nat, i < n → ∃ a : Addr, A = some a ∧ w.cell? (a.add i) = some (.bool (F (i : Int)))
theorem BolsAt.keep {w w1 : World} {A : Option Addr} {n : Nat} {F : Int → Bool} (h : BolsAt w A n F) (hb : Below w.heap.size w w1) : BolsAt w1 A n F := fun i hi => by
  obtain ⟨a, e, c⟩ := h i hi
  exact ⟨a, e, lkeep hb c⟩
theorem BlsAt.bols {w : World} {g n : Nat} {F : Int → Bool} (h : BlsAt w g n F) : BolsAt w (some ⟨g, 0, none⟩) n F := fun i hi => ⟨_, rfl, by rw [add0]; exact h.cellN hi⟩
set_option maxRecDepth 100000 in
set_option maxHeartbeats 2000000 in
theorem eqbools_same (A B : Option Addr) (ca cb n : Nat) (F : Int → Bool) (w : World) (hA : BolsAt w A n F) (hB : BolsAt w B n F) (hn : n ≤ 65536) :
    Calls Try.prog 14 #[.slice A n ca, .slice B n cb] w fun e w' => e = .returned (.bool true) ∧ Below w.heap.size w w' := by
  have HA : Hid (BolsAt w A n F) := hA
  have HB : Hid (BolsAt w B n F) := hB
  clear hA hB
  go_enter Try.func14, Try.ntmps14
  go_wp2
  go_loopw [5] (fun i wr => ∃ k : Nat, i = .int .i64 k ∧ k ≤ n ∧ Hid (Below w.heap.size w wr)) (fun i _ => n - (intOf i).toNat)
  case atStart => exact ⟨0, rfl, Nat.zero_le _, Below.refl _ _⟩
  case round =>
    obtain ⟨k, rfl, hk, HW⟩ := hrel
    by_cases hlt : k < n
    · have hlt' : (k : Int) < (n : Int) := by omega
      obtain ⟨a, ea, c1⟩ := (HA.out.keep HW.out) k hlt
      obtain ⟨b, eb, c2⟩ := (HB.out.keep HW.out) k hlt
      subst ea eb
      generalize F (k : Int) = t at *
      go_upto_region 6 with fail
      cases t
      all_goals (
        go_quiet (fail)
        go_wp2
        go_roundw
        case rel => exact ⟨k + 1, by go_num, by omega, below_drewN HW.out _⟩
        case measure => simp [intOf]; omega)
    · obtain rfl : k = n := by omega
      go_wp2
      go_ret
      exact ⟨rfl, HW.out⟩


end Go.Proofs.Ytgkdagnpefgjcaa
