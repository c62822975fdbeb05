/-
  The program takes a number of four bytes, of eight, of an input. What a taker takes when all is well, and when not; no Go in sight. The program takes numbers of an input: up to a most, words, numbers of eight bytes. The program takes lists of numbers of an input.
-/
import Derived.Test.YthpkekpojhmaaaaGreatDoorProg
import Derived.WalkKit
import Derived.WalkSpells
import Derived.WalkLawsBesides
import Derived.RowKit3
import Derived.Below
import Derived.Deep.QuietTactic
import Derived.BigQuiet
import Derived.WalkSmall
import Derived.Laws.Rows
import Derived.Test.YthpkekpojhmaaaaGreatDoorP04
import Derived.Test.YthpkekpojhmaaaaGreatDoorP05
namespace Go.Proofs.YthpkekpojhmaaaaGreatDoor
open Go.RowKit


/-- What taking a number of n bytes answers. -/
def TakeP (n : Nat) (kd : IntKind) (w0 : World) (g : Nat) (A : Option Addr) (c : Nat) (b : List Int) (p : Nat) (w : World) (r : Ending) (w' : World) : Prop :=
  But g w w' ∧ if p + n ≤ b.length then r = .returned (.tuple #[.int kd (valB ((b.drop p).take n)), .nilIface]) ∧ InBy w0 g A c b (p + n) w' else r = .returned (.tuple #[.int kd 0, errV 27 b.length]) ∧ InBy w0 g A c b b.length w'
theorem take_yes {n : Nat} {kd : IntKind} {w0 : World} {g : Nat} {A : Option Addr} {c : Nat} {b : List Int} {p : Nat} {w w' : World} (h : p + n ≤ b.length) (hb : But g w w') (hi : InBy w0 g A c b (p + n) w') : TakeP n kd w0 g A c b p w (.returned (.tuple #[.int kd (valB ((b.drop p).take n)), .nilIface])) w' :=
  ⟨hb, by rw [if_pos h]; exact ⟨rfl, hi⟩⟩
theorem take_no {n : Nat} {kd : IntKind} {w0 : World} {g : Nat} {A : Option Addr} {c : Nat} {b : List Int} {p : Nat} {w w' : World} (h : ¬ p + n ≤ b.length) (hb : But g w w') (hi : InBy w0 g A c b b.length w') : TakeP n kd w0 g A c b p w (.returned (.tuple #[.int kd 0, errV 27 b.length])) w' :=
  ⟨hb, by rw [if_neg h]; exact ⟨rfl, hi⟩⟩
theorem pow256 {a b : Nat} (h : a ≤ b) : (256 : Int) ^ a ≤ 256 ^ b := by
  have := Nat.pow_le_pow_right (n := 256) (by omega) h
  have e : ∀ k : Nat, (256 : Int) ^ k = ((256 ^ k : Nat) : Int) := fun k => by rw [Int.natCast_pow]; rfl
  rw [e a, e b]
  exact Int.ofNat_le.2 this
theorem or_add64 (X y q : Int) (k : Nat) (hX : X = (2 : Int) ^ k * q) (h0 : 0 ≤ q) (h1 : 0 ≤ y) (h2 : y < (2 : Int) ^ k) (h3 : X + y < 18446744073709551616) : bits .or .u64 X y = X + y := by
  have hp : (0 : Int) < (2 : Int) ^ k := Int.pow_pos (by omega)
  have hX0 : 0 ≤ X := by rw [hX]; exact Int.mul_nonneg (Int.le_of_lt hp) h0
  obtain ⟨Q, rfl⟩ := Int.eq_ofNat_of_zero_le h0
  obtain ⟨Y, rfl⟩ := Int.eq_ofNat_of_zero_le h1
  rw [u64_or X Y hX0 (by omega) (by omega) (by omega)]
  have e : X.toNat = 2 ^ k * Q := by
    rw [hX]
    have : ((2 : Int) ^ k * (Q : Int)) = ((2 ^ k * Q : Nat) : Int) := by simp
    rw [this]; exact Int.toNat_natCast _
  have hy : Y < 2 ^ k := by
    have : ((2 ^ k : Nat) : Int) = (2 : Int) ^ k := by simp
    omega
  rw [Int.toNat_natCast, e, ← Nat.two_pow_add_eq_or_of_lt hy]
  rw [hX]; simp
theorem or8 (n x : Int) (h0 : 0 ≤ n) (h1 : n < 72057594037927936) (hx0 : 0 ≤ x) (hx1 : x < 256) : bits .or .u64 (n * 256) x = n * 256 + x := or_add64 _ _ n 8 (by omega) h0 hx0 (by omega) (by omega)
theorem or4 (n x : Int) (h0 : 0 ≤ n) (h1 : n < 16777216) (hx0 : 0 ≤ x) (hx1 : x < 256) : bits .or .u32 (n * 256) x = n * 256 + x := or_add _ _ n 8 (by omega) h0 hx0 (by omega) (by omega)

set_option maxRecDepth 100000 in
set_option maxHeartbeats 1000000 in
theorem take4_raw (w0 : World) (g : Nat) (A : Option Addr) (c : Nat) (b : List Int) (p : Nat) (w : World) (h : InBy w0 g A c b p w) :
    Calls Tryz.prog 166 #[.pointer (some ⟨g, 0, none⟩)] w (TakeP 4 .u32 w0 g A c b p w) := by
  have hl := h.len
  have hA := h.areB
  have hpos := h.pos
  have HI : Hid _ := h
  clear h
  go_enter Tryz.func166, Tryz.ntmps166
  go_wp2
  go_loopw [5, 4] (fun x n wr => ∃ k : Nat, k ≤ 4 ∧ p + k ≤ b.length ∧ x = .int .u32 (lft (4 - k)) ∧ n = .int .u32 (valB ((b.drop p).take k)) ∧ InBy w0 g A c b (p + k) wr ∧ But g w wr) (fun x _ _ => (intOf x).toNat)
  case atStart => exact ⟨0, by omega, by omega, rfl, rfl, HI.out, But.refl _ _⟩
  case round =>
    obtain ⟨k, hk, hpk, rfl, rfl, hin, hbut⟩ := hrel
    have HB : Hid (But g w wr) := hbut
    clear hbut
    by_cases hk4 : k = 4
    · subst hk4
      have e0 : lft (4 - 4) = 0 := rfl
      rw [e0]
      have HH : Hid _ := hin
      clear hin
      go_wp2
      go_ret2
      exact take_yes hpk HB.out HH.out
    · obtain ⟨m, hm⟩ : ∃ m, 4 - k = m + 1 := ⟨4 - k - 1, by omega⟩
      have hd := lft_succ m
      have hm2 : 4 - (k + 1) = m := by omega
      have hr1 : lft (m + 1) ≤ lft 4 := by unfold lft; have := pow256 (show m + 1 ≤ 4 by omega); omega
      have e8 : lft 4 = 4294967295 := rfl
      rw [e8] at hr1
      rw [hm]
      have hne : (lft (m + 1) != 0) = true := by simp; omega
      have HD : Hid (lft (m + 1) / 256 = lft m) := hd.1
      have hd0 := hd.2
      clear hd e8
      generalize lft (m + 1) = L at *
      by_cases hlt : p + k < b.length
      · have hvr := valB_range ((b.drop p).take k) ((hA.drop p).take k)
        have hvl : ((b.drop p).take k).length = k := by simp; omega
        rw [hvl] at hvr
        have HV : Hid (valB ((b.drop p).take (k + 1)) = valB ((b.drop p).take k) * 256 + nth b (p + k)) := by
          show _ = _
          rw [valB_snoc _ _ (by simp; omega), nth_drop]
        obtain ⟨a, e, _, hx0, hx1⟩ := hin.byte hlt
        have hvk : valB ((b.drop p).take k) < 16777216 := Int.lt_of_lt_of_le hvr.2 (show (256 : Int) ^ k ≤ 256 ^ (4 - 1) from pow256 (by omega))
        have hv0 := hvr.1
        have C := next_ok w0 g A c b (p + k) _ hin hlt
        clear hvr hvl e
        generalize nth b (p + k) = x at *
        generalize valB ((b.drop p).take k) = n at *
        have hor := or4 n x hv0 hvk hx0 hx1
        go_wp2_with (go_at_call 164; refine C.mono ?_; rintro e w1 ⟨rfl, hin1, hb1⟩)
        exact ⟨⟨k + 1, by omega, by omega, by rw [HD.out, hm2], by rw [HV.out], hin1, HB.out.trans hb1⟩, by simp [intOf]; omega⟩
      · have C := next_end w0 g A c b (p + k) _ hin (by omega)
        unfold errV at C
        go_wp2_with (go_at_call 164; refine C.mono ?_; rintro e w1 ⟨rfl, hin1, hb1⟩)
        have hpe : p + k = b.length := by omega
        rw [hpe] at hin1
        go_ret2
        exact take_no (by omega) (HB.out.trans hb1) hin1

set_option maxRecDepth 100000 in
set_option maxHeartbeats 1000000 in
theorem take8_raw (w0 : World) (g : Nat) (A : Option Addr) (c : Nat) (b : List Int) (p : Nat) (w : World) (h : InBy w0 g A c b p w) :
    Calls Tryz.prog 167 #[.pointer (some ⟨g, 0, none⟩)] w (TakeP 8 .u64 w0 g A c b p w) := by
  have hl := h.len
  have hA := h.areB
  have hpos := h.pos
  have HI : Hid _ := h
  clear h
  go_enter Tryz.func167, Tryz.ntmps167
  go_wp2
  go_loopw [5, 4] (fun x n wr => ∃ k : Nat, k ≤ 8 ∧ p + k ≤ b.length ∧ x = .int .u64 (lft (8 - k)) ∧ n = .int .u64 (valB ((b.drop p).take k)) ∧ InBy w0 g A c b (p + k) wr ∧ But g w wr) (fun x _ _ => (intOf x).toNat)
  case atStart => exact ⟨0, by omega, by omega, rfl, rfl, HI.out, But.refl _ _⟩
  case round =>
    obtain ⟨k, hk, hpk, rfl, rfl, hin, hbut⟩ := hrel
    have HB : Hid (But g w wr) := hbut
    clear hbut
    by_cases hk4 : k = 8
    · subst hk4
      have e0 : lft (8 - 8) = 0 := rfl
      rw [e0]
      have HH : Hid _ := hin
      clear hin
      go_wp2
      go_ret2
      exact take_yes hpk HB.out HH.out
    · obtain ⟨m, hm⟩ : ∃ m, 8 - k = m + 1 := ⟨8 - k - 1, by omega⟩
      have hd := lft_succ m
      have hm2 : 8 - (k + 1) = m := by omega
      have hr1 : lft (m + 1) ≤ lft 8 := by unfold lft; have := pow256 (show m + 1 ≤ 8 by omega); omega
      have e8 : lft 8 = 18446744073709551615 := rfl
      rw [e8] at hr1
      rw [hm]
      have hne : (lft (m + 1) != 0) = true := by simp; omega
      have HD : Hid (lft (m + 1) / 256 = lft m) := hd.1
      have hd0 := hd.2
      clear hd e8
      generalize lft (m + 1) = L at *
      by_cases hlt : p + k < b.length
      · have hvr := valB_range ((b.drop p).take k) ((hA.drop p).take k)
        have hvl : ((b.drop p).take k).length = k := by simp; omega
        rw [hvl] at hvr
        have HV : Hid (valB ((b.drop p).take (k + 1)) = valB ((b.drop p).take k) * 256 + nth b (p + k)) := by
          show _ = _
          rw [valB_snoc _ _ (by simp; omega), nth_drop]
        obtain ⟨a, e, _, hx0, hx1⟩ := hin.byte hlt
        have hvk : valB ((b.drop p).take k) < 72057594037927936 := Int.lt_of_lt_of_le hvr.2 (show (256 : Int) ^ k ≤ 256 ^ (8 - 1) from pow256 (by omega))
        have hv0 := hvr.1
        have C := next_ok w0 g A c b (p + k) _ hin hlt
        clear hvr hvl e
        generalize nth b (p + k) = x at *
        generalize valB ((b.drop p).take k) = n at *
        have hor := or8 n x hv0 hvk hx0 hx1
        go_wp2_with (go_at_call 164; refine C.mono ?_; rintro e w1 ⟨rfl, hin1, hb1⟩)
        exact ⟨⟨k + 1, by omega, by omega, by rw [HD.out, hm2], by rw [HV.out], hin1, HB.out.trans hb1⟩, by simp [intOf]; omega⟩
      · have C := next_end w0 g A c b (p + k) _ hin (by omega)
        unfold errV at C
        go_wp2_with (go_at_call 164; refine C.mono ?_; rintro e w1 ⟨rfl, hin1, hb1⟩)
        have hpe : p + k = b.length := by omega
        rw [hpe] at hin1
        go_ret2
        exact take_no (by omega) (HB.out.trans hb1) hin1


end Go.Proofs.YthpkekpojhmaaaaGreatDoor

namespace Go.Proofs.YthpkekpojhmaaaaGreatDoor
open Go.RowKit


theorem four_yes {b : List Int} {p : Nat} (h : p + 4 ≤ b.length) : tFour b ⟨p, 0, 0⟩ = (v4 (b.drop p), ⟨p + 4, 0, 0⟩) := by
  unfold tFour
  rw [tHas_yes (by simp; omega)]
  rfl
theorem four_no {b : List Int} {p : Nat} (h : ¬ p + 4 ≤ b.length) : tFour b ⟨p, 0, 0⟩ = (0, ⟨p, 27, b.length⟩) := by
  unfold tFour
  have e : tHas b.length ⟨p, 0, 0⟩ 4 = ⟨p, 27, b.length⟩ := by unfold tHas; rw [if_pos ⟨rfl, by simp; omega⟩]
  rw [e]
  rfl
theorem eight_yes {b : List Int} {p : Nat} (h : p + 8 ≤ b.length) : tEight b ⟨p, 0, 0⟩ = (v8 (b.drop p), ⟨p + 8, 0, 0⟩) := by
  unfold tEight
  rw [tHas_yes (by simp; omega)]
  rfl
theorem eight_no {b : List Int} {p : Nat} (h : ¬ p + 8 ≤ b.length) : tEight b ⟨p, 0, 0⟩ = (0, ⟨p, 27, b.length⟩) := by
  unfold tEight
  have e : tHas b.length ⟨p, 0, 0⟩ 8 = ⟨p, 27, b.length⟩ := by unfold tHas; rw [if_pos ⟨rfl, by simp; omega⟩]
  rw [e]
  rfl
theorem count_no {b : List Int} {p : Nat} {m : Int} (h : ¬ p + 4 ≤ b.length) : tCount b m ⟨p, 0, 0⟩ = (0, ⟨p, 27, b.length⟩) := by
  unfold tCount
  rw [four_no h]
  rfl
theorem count_much {b : List Int} {p : Nat} {m : Int} (h : p + 4 ≤ b.length) (hm : m < v4 (b.drop p)) : tCount b m ⟨p, 0, 0⟩ = (0, ⟨p + 4, 27, p⟩) := by
  unfold tCount
  rw [four_yes h, if_pos rfl, if_pos hm]
theorem count_yes {b : List Int} {p : Nat} {m : Int} (h : p + 4 ≤ b.length) (hm : ¬ m < v4 (b.drop p)) : tCount b m ⟨p, 0, 0⟩ = (v4 (b.drop p), ⟨p + 4, 0, 0⟩) := by
  unfold tCount
  rw [four_yes h, if_pos rfl, if_neg hm]
/-- A taker that, all well, tells no place. -/
def Plain {α : Type} (f : Tk → α × Tk) : Prop := ∀ p, (f ⟨p, 0, 0⟩).2.bad = 0 → (f ⟨p, 0, 0⟩).2.place = 0
theorem plain_tk {α : Type} {f : Tk → α × Tk} (hf : Plain f) {p : Nat} (h : (f ⟨p, 0, 0⟩).2.bad = 0) : (f ⟨p, 0, 0⟩).2 = ⟨(f ⟨p, 0, 0⟩).2.pos, 0, 0⟩ := by
  have h2 := hf p h
  cases e : (f ⟨p, 0, 0⟩).2
  rw [e] at h h2
  simp only at h h2
  subst h h2
  rfl
theorem plain_four (b : List Int) : Plain (tFour b) := fun p h => by
  by_cases hp : p + 4 ≤ b.length
  · rw [four_yes hp]
  · rw [four_no hp] at h; cases h
theorem plain_eight (b : List Int) : Plain (tEight b) := fun p h => by
  by_cases hp : p + 8 ≤ b.length
  · rw [eight_yes hp]
  · rw [eight_no hp] at h; cases h
theorem plain_count (b : List Int) (m : Int) : Plain (tCount b m) := fun p h => by
  by_cases hp : p + 4 ≤ b.length
  · by_cases hm : m < v4 (b.drop p)
    · rw [count_much hp hm] at h; cases h
    · rw [count_yes hp hm]
  · rw [count_no hp] at h; cases h
theorem plain_byte (b : List Int) : Plain (tByte b) := fun p h => by
  unfold tByte at h ⊢
  split at h
  · next hp => rw [if_pos hp]
  · cases h
theorem list_bad {α : Type} (f : Tk → α × Tk) (n : Nat) (t : Tk) (h : ¬ t.bad = 0) : tList f n t = ([], t) := by
  cases n with
  | zero => rfl
  | succ n => rw [tList, if_neg h]
theorem list_step {α : Type} (f : Tk → α × Tk) (n : Nat) (t : Tk) (h : t.bad = 0) : tList f (n + 1) t = ((f t).1 :: (tList f n (f t).2).1, (tList f n (f t).2).2) := by rw [tList, if_pos h]
/-- How far a list has been taken: k items, and what is left. -/
def Far {α : Type} (f : Tk → α × Tk) (n : Nat) (t : Tk) (k : Nat) (done : List α) (q : Nat) : Prop :=
  done.length = k ∧ k ≤ n ∧ tList f n t = (done ++ (tList f (n - k) ⟨q, 0, 0⟩).1, (tList f (n - k) ⟨q, 0, 0⟩).2)
theorem far_start {α : Type} (f : Tk → α × Tk) (n p : Nat) : Far f n ⟨p, 0, 0⟩ 0 [] p := ⟨rfl, Nat.zero_le _, rfl⟩
theorem far_next {α : Type} {f : Tk → α × Tk} (hf : Plain f) {n k q : Nat} {t : Tk} {done : List α} (h : Far f n t k done q) (hk : k < n) (hg : (f ⟨q, 0, 0⟩).2.bad = 0) : Far f n t (k + 1) (done ++ [(f ⟨q, 0, 0⟩).1]) (f ⟨q, 0, 0⟩).2.pos := by
  obtain ⟨h1, h2, h3⟩ := h
  refine ⟨by simp [h1], hk, ?_⟩
  rw [h3, show n - k = (n - (k + 1)) + 1 by omega, list_step _ _ _ rfl, ← plain_tk hf hg, List.append_assoc]
  rfl
theorem far_bad {α : Type} {f : Tk → α × Tk} {n k q : Nat} {t : Tk} {done : List α} (h : Far f n t k done q) (hk : k < n) (hg : ¬ (f ⟨q, 0, 0⟩).2.bad = 0) : (tList f n t).2 = (f ⟨q, 0, 0⟩).2 := by
  obtain ⟨h1, h2, h3⟩ := h
  rw [h3, show n - k = (n - (k + 1)) + 1 by omega, list_step _ _ _ rfl, list_bad _ _ _ hg]
theorem far_end {α : Type} {f : Tk → α × Tk} {n q : Nat} {t : Tk} {done : List α} (h : Far f n t n done q) : tList f n t = (done, ⟨q, 0, 0⟩) := by
  obtain ⟨h1, h2, h3⟩ := h
  rw [h3, Nat.sub_self]
  simp [tList]
/-- How many there are, and each of them. -/
def tAll {α : Type} (b : List Int) (m : Int) (f : Tk → α × Tk) (t : Tk) : List α × Tk := tList f (tCount b m t).1.toNat (tCount b m t).2
theorem all_bad {α : Type} {b : List Int} {m : Int} {f : Tk → α × Tk} {t : Tk} (h : ¬ (tCount b m t).2.bad = 0) : (tAll b m f t).2 = (tCount b m t).2 := by
  unfold tAll
  rw [list_bad _ _ _ h]
theorem plain_list {α : Type} {f : Tk → α × Tk} (hf : Plain f) (n : Nat) : Plain (tList f n) := fun p => by
  induction n generalizing p with
  | zero => intro _; rfl
  | succ n ih =>
    intro h
    rw [list_step _ _ _ rfl] at h ⊢
    by_cases hg : (f ⟨p, 0, 0⟩).2.bad = 0
    · rw [plain_tk hf hg] at h ⊢
      exact ih _ h
    · rw [list_bad _ _ _ hg] at h
      exact absurd h hg
theorem plain_all {α : Type} {f : Tk → α × Tk} (hf : Plain f) (b : List Int) (m : Int) : Plain (tAll b m f) := fun p h => by
  unfold tAll at h ⊢
  by_cases hg : (tCount b m ⟨p, 0, 0⟩).2.bad = 0
  · have e := plain_tk (plain_count b m) hg
    rw [e] at h ⊢
    exact plain_list hf _ _ h
  · rw [list_bad _ _ _ hg] at h
    exact absurd h hg
theorem count_range {b : List Int} {m : Int} {p : Nat} (hb : AreB b) (h : (tCount b m ⟨p, 0, 0⟩).2.bad = 0) : 0 ≤ (tCount b m ⟨p, 0, 0⟩).1 ∧ (tCount b m ⟨p, 0, 0⟩).1 ≤ m := (tCount_ok hb h).2
/-- Bytes, one by one. -/
theorem bytes_all (b : List Int) : ∀ (n q : Nat), q ≤ b.length → (q + n ≤ b.length → tList (tByte b) n ⟨q, 0, 0⟩ = ((b.drop q).take n, ⟨q + n, 0, 0⟩)) ∧ (¬ q + n ≤ b.length → (tList (tByte b) n ⟨q, 0, 0⟩).2 = ⟨b.length, 27, b.length⟩) := by
  intro n
  induction n with
  | zero => intro q hq; exact ⟨fun _ => by simp [tList], fun h => absurd hq h⟩
  | succ n ih =>
    intro q hq
    rw [list_step _ _ _ rfl]
    by_cases hlt : q < b.length
    · have e : tByte b ⟨q, 0, 0⟩ = (nth b q, ⟨q + 1, 0, 0⟩) := by unfold tByte; rw [if_pos hlt]
      rw [e]
      obtain ⟨i1, i2⟩ := ih (q + 1) hlt
      refine ⟨fun h => ?_, fun h => ?_⟩
      · rw [i1 (by omega)]
        have ed : b.drop q = nth b q :: b.drop (q + 1) := by rw [List.drop_eq_getElem_cons hlt]; simp [nth, List.getD, hlt]
        rw [ed, List.take_succ_cons, show q + 1 + n = q + (n + 1) by omega]
      · exact i2 (by omega)
    · have e : tByte b ⟨q, 0, 0⟩ = (0, ⟨q, 27, b.length⟩) := by unfold tByte; rw [if_neg hlt]
      rw [e]
      refine ⟨fun h => by omega, fun h => ?_⟩
      rw [list_bad _ _ _ (by simp)]
      rw [show q = b.length by omega]
theorem has_stick {N : Nat} {t : Tk} {n : Int} (h : ¬ t.bad = 0) : tHas N t n = t := by unfold tHas; rw [if_neg (fun k => h k.1)]
theorem four_stick {b : List Int} {t : Tk} (h : ¬ t.bad = 0) : tFour b t = (0, t) := by unfold tFour; rw [has_stick h, if_neg h]
theorem count_stick {b : List Int} {m : Int} {t : Tk} (h : ¬ t.bad = 0) : tCount b m t = (0, t) := by unfold tCount; rw [four_stick h, if_neg h]
theorem name_stick {b : List Int} {t : Tk} (h : ¬ t.bad = 0) : (tName b t).2 = t := by
  unfold tName
  rw [count_stick h, has_stick h, if_neg h]
/-- A text is taken as its bytes are. -/
theorem name_all (b : List Int) (hb : AreB b) (p : Nat) : (tName b ⟨p, 0, 0⟩).2.bad = (tAll b 24 (tByte b) ⟨p, 0, 0⟩).2.bad ∧ (tName b ⟨p, 0, 0⟩).2.place = (tAll b 24 (tByte b) ⟨p, 0, 0⟩).2.place ∧
    ((tAll b 24 (tByte b) ⟨p, 0, 0⟩).2.bad = 0 → (tName b ⟨p, 0, 0⟩).1 = strOf (tAll b 24 (tByte b) ⟨p, 0, 0⟩).1 ∧ (tName b ⟨p, 0, 0⟩).2 = (tAll b 24 (tByte b) ⟨p, 0, 0⟩).2) := by
  by_cases hg : (tCount b 24 ⟨p, 0, 0⟩).2.bad = 0
  · obtain ⟨r0, r1⟩ := count_range hb hg
    have hp : p + 4 ≤ b.length := by
      by_cases hp : p + 4 ≤ b.length
      · exact hp
      · rw [count_no hp] at hg; cases hg
    have e := plain_tk (plain_count b 24) hg
    have e4 : (tCount b 24 ⟨p, 0, 0⟩).2.pos = p + 4 := by
      by_cases hm : 24 < v4 (b.drop p)
      · rw [count_much hp hm] at hg; cases hg
      · rw [count_yes hp hm]
    obtain ⟨i1, i2⟩ := bytes_all b (tCount b 24 ⟨p, 0, 0⟩).1.toNat (p + 4) hp
    unfold tName tAll
    rw [e, e4]
    by_cases hn : p + 4 + (tCount b 24 ⟨p, 0, 0⟩).1.toNat ≤ b.length
    · rw [i1 hn, tHas_yes (by simp; omega)]
      exact ⟨rfl, rfl, fun _ => ⟨rfl, rfl⟩⟩
    · have eh : tHas b.length ⟨p + 4, 0, 0⟩ (tCount b 24 ⟨p, 0, 0⟩).1 = ⟨p + 4, 27, b.length⟩ := by unfold tHas; rw [if_pos ⟨rfl, by simp; omega⟩]
      rw [eh, i2 hn]
      exact ⟨rfl, rfl, fun h => by cases h⟩
  · unfold tName tAll
    rw [has_stick hg, list_bad _ _ _ hg, if_neg hg]
    exact ⟨rfl, rfl, fun h => absurd h hg⟩
theorem plain_name (b : List Int) (hb : AreB b) : Plain (tName b) := fun p h => by
  obtain ⟨h1, h2, h3⟩ := name_all b hb p
  rw [h2]
  exact plain_all (plain_byte b) b 24 p (h1 ▸ h)


end Go.Proofs.YthpkekpojhmaaaaGreatDoor

namespace Go.Proofs.YthpkekpojhmaaaaGreatDoor
open Go.RowKit


theorem takes_yes {α : Type} {w0 : World} {g : Nat} {A : Option Addr} {c : Nat} {b : List Int} {res : α × Tk} {val : α → Value} {bad : Value → Prop} {w w' : World} {v : Value} (hb : But g w w') (h : res.2.bad = 0) (hv : v = val res.1) (hi : InBy w0 g A c b res.2.pos w') : Takes w0 g A c b res val bad w (.returned (.tuple #[v, .nilIface])) w' :=
  ⟨hb, Or.inl ⟨h, by rw [hv], hi⟩⟩
theorem takes_no {α : Type} {w0 : World} {g : Nat} {A : Option Addr} {c : Nat} {b : List Int} {res : α × Tk} {val : α → Value} {bad : Value → Prop} {w w' : World} {u : Value} {x y : Int} {p : Nat} (hb : But g w w') (h : ¬ res.2.bad = 0) (hu : bad u) (hx : res.2.bad = x) (hy : res.2.place = y) (hi : InBy w0 g A c b p w') : Takes w0 g A c b res val bad w (.returned (.tuple #[u, .iface 161 (.agg #[.int .i64 x, .int .i64 y])])) w' :=
  ⟨hb, Or.inr ⟨h, u, hu, by rw [hx, hy]; rfl, p, hi⟩⟩
theorem Takes.ok {α : Type} {w0 : World} {g : Nat} {A : Option Addr} {c : Nat} {b : List Int} {res : α × Tk} {val : α → Value} {bad : Value → Prop} {w w' : World} {r : Ending} (h : Takes w0 g A c b res val bad w r w') (e : res.2.bad = 0) : r = .returned (.tuple #[val res.1, .nilIface]) ∧ InBy w0 g A c b res.2.pos w' ∧ But g w w' := by
  obtain ⟨hb, ⟨_, h1, h2⟩ | ⟨h0, _⟩⟩ := h
  · exact ⟨h1, h2, hb⟩
  · exact absurd e h0
theorem Takes.err {α : Type} {w0 : World} {g : Nat} {A : Option Addr} {c : Nat} {b : List Int} {res : α × Tk} {val : α → Value} {bad : Value → Prop} {w w' : World} {r : Ending} (h : Takes w0 g A c b res val bad w r w') (e : ¬ res.2.bad = 0) : ∃ u p, bad u ∧ r = .returned (.tuple #[u, .iface 161 (.agg #[.int .i64 res.2.bad, .int .i64 res.2.place])]) ∧ InBy w0 g A c b p w' ∧ But g w w' := by
  obtain ⟨hb, ⟨h0, _⟩ | ⟨_, u, hu, h1, p, h2⟩⟩ := h
  · exact absurd h0 e
  · exact ⟨u, p, hu, h1, h2, hb⟩
/-- A zero. -/
def IsZ (k : IntKind) (u : Value) : Prop := u = .int k 0
theorem take4_any (w0 : World) (g : Nat) (A : Option Addr) (c : Nat) (b : List Int) (p : Nat) (w : World) (h : InBy w0 g A c b p w) :
    Calls Tryz.prog 166 #[.pointer (some ⟨g, 0, none⟩)] w (Takes w0 g A c b (tFour b ⟨p, 0, 0⟩) (.int .u32) (IsZ .u32) w) := by
  refine (take4_raw w0 g A c b p w h).mono ?_
  rintro r w1 ⟨hb, h1⟩
  by_cases hp : p + 4 ≤ b.length
  · rw [if_pos hp] at h1
    obtain ⟨rfl, hi⟩ := h1
    rw [four_yes hp]
    exact takes_yes hb rfl (by rw [val4 (by simp; omega)]) hi
  · rw [if_neg hp] at h1
    obtain ⟨rfl, hi⟩ := h1
    rw [four_no hp]
    exact takes_no hb (by simp) rfl rfl rfl hi
theorem take8_any (w0 : World) (g : Nat) (A : Option Addr) (c : Nat) (b : List Int) (p : Nat) (w : World) (h : InBy w0 g A c b p w) :
    Calls Tryz.prog 167 #[.pointer (some ⟨g, 0, none⟩)] w (Takes w0 g A c b (tEight b ⟨p, 0, 0⟩) (fun n => .int .u64 (n % 18446744073709551616)) (IsZ .u64) w) := by
  refine (take8_raw w0 g A c b p w h).mono ?_
  rintro r w1 ⟨hb, h1⟩
  by_cases hp : p + 8 ≤ b.length
  · rw [if_pos hp] at h1
    obtain ⟨rfl, hi⟩ := h1
    rw [eight_yes hp]
    refine takes_yes hb rfl ?_ hi
    have hA := h.areB.drop p
    have hl : 8 ≤ (b.drop p).length := by simp; omega
    have r1 := (be4_v4 (l := b.drop p) (by omega) hA).2
    have r2 := (be4_v4 (l := (b.drop p).drop 4) (by simp; omega) (hA.drop 4)).2
    rw [val8 hl]
    show Value.int .u64 _ = Value.int .u64 (v8 (b.drop p) % 18446744073709551616)
    congr 1
    unfold v8 s64
    split <;> omega
  · rw [if_neg hp] at h1
    obtain ⟨rfl, hi⟩ := h1
    rw [eight_no hp]
    exact takes_no hb (by simp) rfl rfl rfl hi
theorem word_any (w0 : World) (g : Nat) (A : Option Addr) (c : Nat) (b : List Int) (p : Nat) (w : World) (h : InBy w0 g A c b p w) :
    Calls Tryz.prog 129 #[.pointer (some ⟨g, 0, none⟩)] w (Takes w0 g A c b (tFour b ⟨p, 0, 0⟩) (.int .u32) (IsZ .u32) w) := by
  by_cases hg : (tFour b ⟨p, 0, 0⟩).2.bad = 0
  · go_enter Tryz.func129, Tryz.ntmps129
    go_wp2_with fail
    refine (take4_any w0 g A c b p _ h).mono ?_
    intro r w1 hr
    obtain ⟨rfl, hi, hb⟩ := hr.ok hg
    have HG : Hid _ := hg
    clear hr hg
    go_wp2
    go_ret2
    exact takes_yes hb HG.out rfl hi
  · go_enter Tryz.func129, Tryz.ntmps129
    go_wp2_with fail
    refine (take4_any w0 g A c b p _ h).mono ?_
    intro r w1 hr
    obtain ⟨_, q, rfl, rfl, hi, hb⟩ := hr.err hg
    have HG : Hid _ := hg
    clear hr hg
    go_wp2
    go_ret2
    exact takes_no hb HG.out rfl rfl rfl hi
theorem data_any (w0 : World) (g : Nat) (A : Option Addr) (c : Nat) (b : List Int) (p : Nat) (w : World) (h : InBy w0 g A c b p w) :
    Calls Tryz.prog 132 #[.pointer (some ⟨g, 0, none⟩)] w (Takes w0 g A c b (tEight b ⟨p, 0, 0⟩) (.int .i64) (IsZ .i64) w) := by
  by_cases hg : (tEight b ⟨p, 0, 0⟩).2.bad = 0
  · obtain ⟨_, r1, r2⟩ := tEight_ok h.areB hg
    go_enter Tryz.func132, Tryz.ntmps132
    go_wp2_with fail
    refine (take8_any w0 g A c b p _ h).mono ?_
    intro r w1 hr
    obtain ⟨rfl, hi, hb⟩ := hr.ok hg
    have HG : Hid _ := hg
    clear hr hg
    have HV : Hid (wrap64 ((tEight b ⟨p, 0, 0⟩).1 % 18446744073709551616) = (tEight b ⟨p, 0, 0⟩).1) := by
      show _ = _
      unfold wrap64
      omega
    go_wp2
    go_ret2
    exact takes_yes hb HG.out (by show Value.int .i64 (wrap64 _) = _; rw [HV.out]) hi
  · go_enter Tryz.func132, Tryz.ntmps132
    go_wp2_with fail
    refine (take8_any w0 g A c b p _ h).mono ?_
    intro r w1 hr
    obtain ⟨_, q, rfl, rfl, hi, hb⟩ := hr.err hg
    have HG : Hid _ := hg
    clear hr hg
    go_wp2
    go_ret2
    exact takes_no hb HG.out rfl rfl rfl hi
theorem upto_any (m : Int) (hm0 : 0 ≤ m) (hm1 : m ≤ 9223372036854775807) (w0 : World) (g : Nat) (A : Option Addr) (c : Nat) (b : List Int) (p : Nat) (w : World) (h : InBy w0 g A c b p w) :
    Calls Tryz.prog 130 #[.pointer (some ⟨g, 0, none⟩), .int .i64 m] w (Takes w0 g A c b (tCount b m ⟨p, 0, 0⟩) (.int .i64) (IsZ .i64) w) := by
  obtain ⟨c0, c1, f1⟩ := h.cells
  have C := take4_any w0 g A c b p w h
  by_cases hp : p + 4 ≤ b.length
  · have r1 := (be4_v4 (l := b.drop p) (by simp; omega) (h.areB.drop p)).2
    rw [four_yes hp] at C
    by_cases hm : m < v4 (b.drop p)
    · have HM : Hid _ := count_much (m := m) hp hm
      generalize v4 (b.drop p) = x at *
      go_enter Tryz.func130, Tryz.ntmps130
      go_wp2_with fail
      refine C.mono ?_
      intro r w1 hr
      obtain ⟨rfl, hi, hb⟩ := hr.ok rfl
      clear hr
      go_wp2
      go_ret2
      rw [HM.out]
      exact takes_no hb (by simp) rfl rfl rfl hi
    · have HM : Hid _ := count_yes (m := m) hp hm
      generalize v4 (b.drop p) = x at *
      go_enter Tryz.func130, Tryz.ntmps130
      go_wp2_with fail
      refine C.mono ?_
      intro r w1 hr
      obtain ⟨rfl, hi, hb⟩ := hr.ok rfl
      clear hr
      go_wp2
      go_ret2
      rw [HM.out]
      exact takes_yes hb rfl rfl hi
  · rw [four_no hp] at C
    have HM : Hid _ := count_no (m := m) hp
    go_enter Tryz.func130, Tryz.ntmps130
    go_wp2_with fail
    refine C.mono ?_
    intro r w1 hr
    obtain ⟨_, q, rfl, rfl, hi, hb⟩ := hr.err (by simp)
    clear hr
    go_wp2
    go_ret2
    rw [HM.out]
    exact takes_no hb (by simp) rfl rfl rfl hi


end Go.Proofs.YthpkekpojhmaaaaGreatDoor

namespace Go.Proofs.YthpkekpojhmaaaaGreatDoor
open Go.RowKit


/-- What taking a list answers. -/
def TakesL {α : Type} (T : TypeId) (sz : Nat) (news : List α → List Value) (w0 : World) (g : Nat) (A : Option Addr) (c : Nat) (b : List Int) (res : List α × Tk) (w : World) (r : Ending) (w' : World) : Prop :=
  But g w w' ∧ ((res.2.bad = 0 ∧ ∃ v, r = .returned (.tuple #[v, .nilIface]) ∧ w'.ownsRow w.heap.size T sz v res.1.length (news res.1) ∧ InBy w0 g A c b res.2.pos w') ∨ (¬ res.2.bad = 0 ∧ r = .returned (.tuple #[.slice none 0 0, errV res.2.bad res.2.place]) ∧ ∃ p, InBy w0 g A c b p w'))
theorem takesL_yes {α : Type} {T : TypeId} {sz : Nat} {news : List α → List Value} {w0 : World} {g : Nat} {A : Option Addr} {c : Nat} {b : List Int} {res : List α × Tk} {w w' : World} {v : Value} {l : List α} {q : Nat} (hb : But g w w') (h : res = (l, ⟨q, 0, 0⟩)) (ho : w'.ownsRow w.heap.size T sz v l.length (news l)) (hi : InBy w0 g A c b q w') : TakesL T sz news w0 g A c b res w (.returned (.tuple #[v, .nilIface])) w' := by
  subst h
  exact ⟨hb, Or.inl ⟨rfl, v, rfl, ho, hi⟩⟩
theorem takesL_no {α : Type} {T : TypeId} {sz : Nat} {news : List α → List Value} {w0 : World} {g : Nat} {A : Option Addr} {c : Nat} {b : List Int} {res : List α × Tk} {w w' : World} {t : Tk} {p : Nat} (hb : But g w w') (e : res.2 = t) (h : ¬ t.bad = 0) (hi : InBy w0 g A c b p w') : TakesL T sz news w0 g A c b res w (.returned (.tuple #[.slice none 0 0, .iface 161 (.agg #[.int .i64 t.bad, .int .i64 t.place])])) w' := by
  subst e
  exact ⟨hb, Or.inr ⟨h, rfl, p, hi⟩⟩
theorem TakesL.ok {α : Type} {T : TypeId} {sz : Nat} {news : List α → List Value} {w0 : World} {g : Nat} {A : Option Addr} {c : Nat} {b : List Int} {res : List α × Tk} {w w' : World} {r : Ending} (h : TakesL T sz news w0 g A c b res w r w') (e : res.2.bad = 0) : ∃ v, r = .returned (.tuple #[v, .nilIface]) ∧ w'.ownsRow w.heap.size T sz v res.1.length (news res.1) ∧ InBy w0 g A c b res.2.pos w' ∧ But g w w' := by
  obtain ⟨hb, ⟨_, v, h1, h2, h3⟩ | ⟨h0, _⟩⟩ := h
  · exact ⟨v, h1, h2, h3, hb⟩
  · exact absurd e h0
theorem TakesL.err {α : Type} {T : TypeId} {sz : Nat} {news : List α → List Value} {w0 : World} {g : Nat} {A : Option Addr} {c : Nat} {b : List Int} {res : List α × Tk} {w w' : World} {r : Ending} (h : TakesL T sz news w0 g A c b res w r w') (e : ¬ res.2.bad = 0) : ∃ p, r = .returned (.tuple #[.slice none 0 0, .iface 161 (.agg #[.int .i64 res.2.bad, .int .i64 res.2.place])]) ∧ InBy w0 g A c b p w' ∧ But g w w' := by
  obtain ⟨hb, ⟨h0, _⟩ | ⟨_, h1, p, h2⟩⟩ := h
  · exact absurd h0 e
  · exact ⟨p, h1, h2, hb⟩
theorem row_but {w w1 : World} {base g n : Nat} {e : TypeId} {sz : Nat} {v : Value} {xs : List Value} (ho : w.ownsRow base e sz v n xs) (hg : g < base) (hb : But g w w1) : w1.ownsRow base e sz v n xs := by
  refine ho.kept (row := some g) ⟨hb.1, hb.2.1, hb.2.2.1, hb.2.2.2.1, fun k hk hn => hb.2.2.2.2 k hk (fun e => hn (by rw [e]))⟩ ?_
  cases hv : v.ownBlock with
  | none => exact Or.inl rfl
  | some k => exact Or.inr fun e => by cases e; have := ho.lt g hv; omega
theorem in_grown {w0 w w1 : World} {g c p base : Nat} {A : Option Addr} {b : List Int} {row : Option Nat} (h : InBy w0 g A c b p w) (hs : w.grownBy w1 row) (hr : ∀ k, row = some k → base ≤ k) (hg : g < base) : InBy w0 g A c b p w1 := by
  have hle := h.le
  refine ⟨by rw [hs.block g h.lt (fun e => by have := hr g e.symm; omega)]; exact h.box, h.ints, ?_, h.le, h.areB, h.len, h.cap, h.pos⟩
  exact Below.grown h.below hs h.below.size (fun k hk => by have := hr k hk; omega)
theorem but_grown {w w1 w2 : World} {g : Nat} {row : Option Nat} (h : But g w w1) (hs : w1.grownBy w2 row) (hr : ∀ k, row = some k → w.heap.size ≤ k) : But g w w2 :=
  ⟨hs.os.trans h.1, hs.tape.trans h.2.1, hs.output.trans h.2.2.1, Nat.le_trans h.2.2.2.1 hs.size, fun k hk hn => (hs.block k (Nat.lt_of_lt_of_le hk h.2.2.2.1) (fun e => by have := hr k e.symm; omega)).trans (h.2.2.2.2 k hk hn)⟩
theorem any_form {w : World} {b n : Nat} {e : TypeId} {sz : Nat} {v : Value} {xs : List Value} (h : w.ownsRow b e sz v n xs) : ∃ A n c, v = .slice A n c := by
  rcases h.2 with ⟨rfl, _⟩ | ⟨g, cap, cur, rfl, _⟩
  · exact ⟨_, _, _, rfl⟩
  · exact ⟨_, _, _, rfl⟩

/-- A new block reads as it was made. -/
theorem new_cells (w : World) (l : List Value) (T : TypeId) (h : l.length ≤ 1048576) : ∀ j u, l[j]? = some u → (w.alloc (.cells l.toArray T)).cell? ((⟨w.heap.size, 0, none⟩ : Addr).add j) = some u := by
  have hr : (w.alloc (.cells l.toArray T)).ownsRow w.heap.size T 1 (.slice (some ⟨w.heap.size, 0, none⟩) l.length l.length) l.length l := by
    refine ⟨by omega, Or.inr ⟨w.heap.size, l.length, l.toArray, rfl, Nat.le_refl _, heap_alloc_new _ _, Nat.le_refl _, by unfold maxLen; omega, by simp, ?_⟩⟩
    simp only [Nat.mul_one]
    exact List.take_length
  exact hr.cells rfl
/-- Items as cells. -/
def iVals (K : IntKind) (zs : List Int) : List Value := zs.map (Value.int K)
theorem iVals_snoc (K : IntKind) (zs : List Int) (x : Int) : iVals K (zs ++ [x]) = iVals K zs ++ [.int K x] := by simp [iVals]
theorem nextb_any (w0 : World) (g : Nat) (A : Option Addr) (c : Nat) (b : List Int) (p : Nat) (w : World) (h : InBy w0 g A c b p w) :
    Calls Tryz.prog 164 #[.pointer (some ⟨g, 0, none⟩)] w (Takes w0 g A c b (tByte b ⟨p, 0, 0⟩) (.int .u8) (IsZ .u8) w) := by
  by_cases hp : p < b.length
  · refine (next_ok w0 g A c b p w h hp).mono ?_
    rintro r w1 ⟨rfl, hi, hb⟩
    have e : tByte b ⟨p, 0, 0⟩ = (nth b p, ⟨p + 1, 0, 0⟩) := by unfold tByte; rw [if_pos hp]
    rw [e]
    exact takes_yes hb rfl rfl hi
  · refine (next_end w0 g A c b p w h (by have := h.pos; omega)).mono ?_
    rintro r w1 ⟨rfl, hi, hb⟩
    have e : tByte b ⟨p, 0, 0⟩ = (0, ⟨p, 27, b.length⟩) := by unfold tByte; rw [if_neg hp]
    rw [e]
    exact takes_no hb (by simp) rfl rfl rfl hi

theorem info_takeWords : ∃ i, Tryz.prog.info? 78 = some i ∧ i.zero = some (.int .u32 0) ∧ i.size = 1 ∧ i.bytes = 4 :=
  ⟨(Tryz.prog.info? 78).get (by kernel_rfl), by kernel_rfl, by kernel_rfl, by kernel_rfl, by kernel_rfl⟩
set_option maxRecDepth 100000 in
set_option maxHeartbeats 2000000 in
theorem takeWords (m : Int) (hm0 : 0 ≤ m) (hm1 : m ≤ 1048576) (w0 : World) (g : Nat) (A : Option Addr) (c : Nat) (b : List Int) (p : Nat) (w : World) (h : InBy w0 g A c b p w) :
    Calls Tryz.prog 128 #[.pointer (some ⟨g, 0, none⟩), .int .i64 m, .func (.func 129) #[.pointer (some ⟨g, 0, none⟩)] #[]] w (TakesL 78 1 (iVals .u32) w0 g A c b (tAll b m (tFour b) ⟨p, 0, 0⟩) w) := by
  obtain ⟨i0, hi, hz0, hz1, hz2⟩ := info_takeWords
  have C := upto_any m hm0 (by omega) w0 g A c b p w h
  have hgw := h.lt
  have hab := h.areB
  by_cases hg : (tCount b m ⟨p, 0, 0⟩).2.bad = 0
  · obtain ⟨r0, r1⟩ := count_range hab hg
    have HA : Hid (tAll b m (tFour b) ⟨p, 0, 0⟩ = tList (tFour b) (tCount b m ⟨p, 0, 0⟩).1.toNat ⟨(tCount b m ⟨p, 0, 0⟩).2.pos, 0, 0⟩) := by
      show _ = _
      unfold tAll
      rw [← plain_tk (plain_count b m) hg]
    have HG : Hid _ := hg
    obtain ⟨n, hn⟩ := Int.eq_ofNat_of_zero_le r0
    go_enter Tryz.func128, Tryz.ntmps128
    go_wp2_with fail
    refine C.mono ?_
    intro r w1 hr
    obtain ⟨rfl, hi1, hb1⟩ := hr.ok hg
    rw [hn]
    rw [hn] at r1
    have hn2 : (tCount b m ⟨p, 0, 0⟩).1.toNat = n := by rw [hn]; rfl
    have HA2 : Hid _ := HA.out
    rw [hn2] at HA2
    have H1 : Hid _ := hi1
    have B1 : Hid (But g w w1) := hb1
    generalize (tCount b m ⟨p, 0, 0⟩).2.pos = q0 at *
    clear hr hi1 hb1 hg HG HA hn hn2 C r0 h
    go_wp2
    go_loopw [23, 10] (fun i s wr => ∃ (k q : Nat) (done : List Int), i = .int .i64 k ∧ Far (tFour b) n ⟨q0, 0, 0⟩ k done q ∧ wr.ownsRow w.heap.size 78 1 s k ((iVals .u32) done) ∧ InBy w0 g A c b q wr ∧ But g w wr) (fun i _ _ => n - (intOf i).toNat)
    case atStart => exact ⟨0, q0, [], rfl, far_start _ _ _, World.ownsRow_nil _ _ _ _, H1.out, B1.out⟩
    case round =>
      obtain ⟨k, q, done, rfl, hfar, hown, hin, hbut⟩ := hrel
      have hdl := hfar.1
      have hkn := hfar.2.1
      have HF : Hid (Far (tFour b) n ⟨q0, 0, 0⟩ k done q) := hfar
      have B2 : Hid (But g w wr) := hbut
      have hsz := hbut.2.2.2.1
      obtain ⟨As, ns, cs, rfl⟩ := any_form hown
      clear hfar hbut
      by_cases hlt : k < n
      · have C := word_any w0 g A c b q wr hin
        by_cases hg : (tFour b ⟨q, 0, 0⟩).2.bad = 0
        · go_wp2_with fail
          refine C.mono ?_
          intro r w2 hr
          obtain ⟨rfl, hin2, hb2⟩ := hr.ok hg
          have HX : Hid _ := far_next (plain_four b) HF.out hlt hg
          have hown2 := row_but hown hgw hb2
          have hsz2 := hb2.2.2.2.1
          clear hr C hown hin
          have HB2 : Hid (But g w w2) := B2.out.trans hb2
          clear hb2 hg
          generalize tFour b ⟨q, 0, 0⟩ = F at *
          obtain ⟨x, t⟩ := F
          simp only at hin2 HX ⊢
          have hin3 := hin2.keep (lb_alloc (Below.refl _ _) (.cells #[.int .u32 x] 78))
          have hown3 := hown2.alloc (.cells #[.int .u32 x] 78)
          have HB3 : Hid (But g w (w2.alloc (.cells #[.int .u32 x] 78))) := HB2.out.on (lb_alloc (Below.refl _ _) _)
          have hc : ∀ j u, ([.int .u32 x] : List Value)[j]? = some u → (w2.alloc (.cells #[.int .u32 x] 78)).cell? ((⟨w2.heap.size, 0, none⟩ : Addr).add j) = some u := new_cells _ _ _ (by simp)
          have hone : ∀ u ∈ ([.int .u32 x] : List Value), u.oneCell' = true := by simp [Value.oneCell']
          go_wp2_with (at_builtin; refine wpList_append_own _ rfl (.tmp 33) (.tmp 35) 26 rfl w.heap.size 78 i0 (.int .u32 0) 1 4 Tryz.underlying26 hi hz0 hz1 hz2 rfl (by decide) (.slice As ns cs) k ((iVals .u32) done) rfl hown3 ⟨w2.heap.size, 0, none⟩ 1 1 [.int .u32 x] rfl rfl hc hone (by unfold maxLen; omega) (by omega) (by simp; omega) ?_; intro v' w' hown' hgrow hnil)
          have hr4 : ∀ j, (Value.slice As ns cs).ownBlock = some j → w.heap.size ≤ j := fun j hj => (hown3.lt j hj).1
          have hin4 := in_grown hin3 hgrow hr4 hgw
          have hb4 := but_grown HB3.out hgrow hr4
          go_roundw
          case rel => exact ⟨k + 1, _, _, by go_num, HX.out, by rw [show (iVals .u32) (done ++ [_]) = (iVals .u32) done ++ [.int .u32 x] from iVals_snoc _ _ _]; exact hown', hin4, hb4⟩
          case measure => simp [intOf]; omega
        · go_wp2_with fail
          refine C.mono ?_
          intro r w2 hr
          obtain ⟨_, p2, rfl, rfl, hin2, hb2⟩ := hr.err hg
          have HX : Hid _ := far_bad HF.out hlt hg
          have HG : Hid _ := hg
          clear hr hg C
          generalize tFour b ⟨q, 0, 0⟩ = F at *
          go_wp2
          go_ret2
          exact takesL_no (B2.out.trans hb2) (by rw [HA2.out]; exact HX.out) HG.out hin2
      · obtain rfl : k = n := by omega
        go_wp2
        go_ret2
        exact takesL_yes B2.out (by rw [HA2.out]; exact far_end HF.out) (by rw [hdl]; exact hown) hin
  · have HA : Hid _ := all_bad (f := tFour b) hg
    have HG : Hid _ := hg
    go_enter Tryz.func128, Tryz.ntmps128
    go_wp2_with fail
    refine C.mono ?_
    intro r w1 hr
    obtain ⟨_, p2, rfl, rfl, hi1, hb1⟩ := hr.err hg
    clear hr hg
    generalize (tCount b m ⟨p, 0, 0⟩).2 = T at *
    go_wp2
    go_ret2
    exact takesL_no hb1 HA.out HG.out hi1

theorem info_takeLongs : ∃ i, Tryz.prog.info? 2 = some i ∧ i.zero = some (.int .i64 0) ∧ i.size = 1 ∧ i.bytes = 8 :=
  ⟨(Tryz.prog.info? 2).get (by kernel_rfl), by kernel_rfl, by kernel_rfl, by kernel_rfl, by kernel_rfl⟩
set_option maxRecDepth 100000 in
set_option maxHeartbeats 2000000 in
theorem takeLongs (m : Int) (hm0 : 0 ≤ m) (hm1 : m ≤ 1048576) (w0 : World) (g : Nat) (A : Option Addr) (c : Nat) (b : List Int) (p : Nat) (w : World) (h : InBy w0 g A c b p w) :
    Calls Tryz.prog 131 #[.pointer (some ⟨g, 0, none⟩), .int .i64 m, .func (.func 132) #[.pointer (some ⟨g, 0, none⟩)] #[]] w (TakesL 2 1 (iVals .i64) w0 g A c b (tAll b m (tEight b) ⟨p, 0, 0⟩) w) := by
  obtain ⟨i0, hi, hz0, hz1, hz2⟩ := info_takeLongs
  have C := upto_any m hm0 (by omega) w0 g A c b p w h
  have hgw := h.lt
  have hab := h.areB
  by_cases hg : (tCount b m ⟨p, 0, 0⟩).2.bad = 0
  · obtain ⟨r0, r1⟩ := count_range hab hg
    have HA : Hid (tAll b m (tEight b) ⟨p, 0, 0⟩ = tList (tEight b) (tCount b m ⟨p, 0, 0⟩).1.toNat ⟨(tCount b m ⟨p, 0, 0⟩).2.pos, 0, 0⟩) := by
      show _ = _
      unfold tAll
      rw [← plain_tk (plain_count b m) hg]
    have HG : Hid _ := hg
    obtain ⟨n, hn⟩ := Int.eq_ofNat_of_zero_le r0
    go_enter Tryz.func131, Tryz.ntmps131
    go_wp2_with fail
    refine C.mono ?_
    intro r w1 hr
    obtain ⟨rfl, hi1, hb1⟩ := hr.ok hg
    rw [hn]
    rw [hn] at r1
    have hn2 : (tCount b m ⟨p, 0, 0⟩).1.toNat = n := by rw [hn]; rfl
    have HA2 : Hid _ := HA.out
    rw [hn2] at HA2
    have H1 : Hid _ := hi1
    have B1 : Hid (But g w w1) := hb1
    generalize (tCount b m ⟨p, 0, 0⟩).2.pos = q0 at *
    clear hr hi1 hb1 hg HG HA hn hn2 C r0 h
    go_wp2
    go_loopw [23, 10] (fun i s wr => ∃ (k q : Nat) (done : List Int), i = .int .i64 k ∧ Far (tEight b) n ⟨q0, 0, 0⟩ k done q ∧ wr.ownsRow w.heap.size 2 1 s k ((iVals .i64) done) ∧ InBy w0 g A c b q wr ∧ But g w wr) (fun i _ _ => n - (intOf i).toNat)
    case atStart => exact ⟨0, q0, [], rfl, far_start _ _ _, World.ownsRow_nil _ _ _ _, H1.out, B1.out⟩
    case round =>
      obtain ⟨k, q, done, rfl, hfar, hown, hin, hbut⟩ := hrel
      have hdl := hfar.1
      have hkn := hfar.2.1
      have HF : Hid (Far (tEight b) n ⟨q0, 0, 0⟩ k done q) := hfar
      have B2 : Hid (But g w wr) := hbut
      have hsz := hbut.2.2.2.1
      obtain ⟨As, ns, cs, rfl⟩ := any_form hown
      clear hfar hbut
      by_cases hlt : k < n
      · have C := data_any w0 g A c b q wr hin
        by_cases hg : (tEight b ⟨q, 0, 0⟩).2.bad = 0
        · go_wp2_with fail
          refine C.mono ?_
          intro r w2 hr
          obtain ⟨rfl, hin2, hb2⟩ := hr.ok hg
          have HX : Hid _ := far_next (plain_eight b) HF.out hlt hg
          have hown2 := row_but hown hgw hb2
          have hsz2 := hb2.2.2.2.1
          clear hr C hown hin
          have HB2 : Hid (But g w w2) := B2.out.trans hb2
          clear hb2 hg
          generalize tEight b ⟨q, 0, 0⟩ = F at *
          obtain ⟨x, t⟩ := F
          simp only at hin2 HX ⊢
          have hin3 := hin2.keep (lb_alloc (Below.refl _ _) (.cells #[.int .i64 x] 2))
          have hown3 := hown2.alloc (.cells #[.int .i64 x] 2)
          have HB3 : Hid (But g w (w2.alloc (.cells #[.int .i64 x] 2))) := HB2.out.on (lb_alloc (Below.refl _ _) _)
          have hc : ∀ j u, ([.int .i64 x] : List Value)[j]? = some u → (w2.alloc (.cells #[.int .i64 x] 2)).cell? ((⟨w2.heap.size, 0, none⟩ : Addr).add j) = some u := new_cells _ _ _ (by simp)
          have hone : ∀ u ∈ ([.int .i64 x] : List Value), u.oneCell' = true := by simp [Value.oneCell']
          go_wp2_with (at_builtin; refine wpList_append_own _ rfl (.tmp 33) (.tmp 35) 27 rfl w.heap.size 2 i0 (.int .i64 0) 1 8 Tryz.underlying27 hi hz0 hz1 hz2 rfl (by decide) (.slice As ns cs) k ((iVals .i64) done) rfl hown3 ⟨w2.heap.size, 0, none⟩ 1 1 [.int .i64 x] rfl rfl hc hone (by unfold maxLen; omega) (by omega) (by simp; omega) ?_; intro v' w' hown' hgrow hnil)
          have hr4 : ∀ j, (Value.slice As ns cs).ownBlock = some j → w.heap.size ≤ j := fun j hj => (hown3.lt j hj).1
          have hin4 := in_grown hin3 hgrow hr4 hgw
          have hb4 := but_grown HB3.out hgrow hr4
          go_roundw
          case rel => exact ⟨k + 1, _, _, by go_num, HX.out, by rw [show (iVals .i64) (done ++ [_]) = (iVals .i64) done ++ [.int .i64 x] from iVals_snoc _ _ _]; exact hown', hin4, hb4⟩
          case measure => simp [intOf]; omega
        · go_wp2_with fail
          refine C.mono ?_
          intro r w2 hr
          obtain ⟨_, p2, rfl, rfl, hin2, hb2⟩ := hr.err hg
          have HX : Hid _ := far_bad HF.out hlt hg
          have HG : Hid _ := hg
          clear hr hg C
          generalize tEight b ⟨q, 0, 0⟩ = F at *
          go_wp2
          go_ret2
          exact takesL_no (B2.out.trans hb2) (by rw [HA2.out]; exact HX.out) HG.out hin2
      · obtain rfl : k = n := by omega
        go_wp2
        go_ret2
        exact takesL_yes B2.out (by rw [HA2.out]; exact far_end HF.out) (by rw [hdl]; exact hown) hin
  · have HA : Hid _ := all_bad (f := tEight b) hg
    have HG : Hid _ := hg
    go_enter Tryz.func131, Tryz.ntmps131
    go_wp2_with fail
    refine C.mono ?_
    intro r w1 hr
    obtain ⟨_, p2, rfl, rfl, hi1, hb1⟩ := hr.err hg
    clear hr hg
    generalize (tCount b m ⟨p, 0, 0⟩).2 = T at *
    go_wp2
    go_ret2
    exact takesL_no hb1 HA.out HG.out hi1

theorem info_takeBytes : ∃ i, Tryz.prog.info? 5 = some i ∧ i.zero = some (.int .u8 0) ∧ i.size = 1 ∧ i.bytes = 1 :=
  ⟨(Tryz.prog.info? 5).get (by kernel_rfl), by kernel_rfl, by kernel_rfl, by kernel_rfl, by kernel_rfl⟩
set_option maxRecDepth 100000 in
set_option maxHeartbeats 2000000 in
theorem takeBytes (m : Int) (hm0 : 0 ≤ m) (hm1 : m ≤ 1048576) (w0 : World) (g : Nat) (A : Option Addr) (c : Nat) (b : List Int) (p : Nat) (w : World) (h : InBy w0 g A c b p w) :
    Calls Tryz.prog 165 #[.pointer (some ⟨g, 0, none⟩), .int .i64 m, .func (.func 164) #[.pointer (some ⟨g, 0, none⟩)] #[]] w (TakesL 5 1 (iVals .u8) w0 g A c b (tAll b m (tByte b) ⟨p, 0, 0⟩) w) := by
  obtain ⟨i0, hi, hz0, hz1, hz2⟩ := info_takeBytes
  have C := upto_any m hm0 (by omega) w0 g A c b p w h
  have hgw := h.lt
  have hab := h.areB
  by_cases hg : (tCount b m ⟨p, 0, 0⟩).2.bad = 0
  · obtain ⟨r0, r1⟩ := count_range hab hg
    have HA : Hid (tAll b m (tByte b) ⟨p, 0, 0⟩ = tList (tByte b) (tCount b m ⟨p, 0, 0⟩).1.toNat ⟨(tCount b m ⟨p, 0, 0⟩).2.pos, 0, 0⟩) := by
      show _ = _
      unfold tAll
      rw [← plain_tk (plain_count b m) hg]
    have HG : Hid _ := hg
    obtain ⟨n, hn⟩ := Int.eq_ofNat_of_zero_le r0
    go_enter Tryz.func165, Tryz.ntmps165
    go_wp2_with fail
    refine C.mono ?_
    intro r w1 hr
    obtain ⟨rfl, hi1, hb1⟩ := hr.ok hg
    rw [hn]
    rw [hn] at r1
    have hn2 : (tCount b m ⟨p, 0, 0⟩).1.toNat = n := by rw [hn]; rfl
    have HA2 : Hid _ := HA.out
    rw [hn2] at HA2
    have H1 : Hid _ := hi1
    have B1 : Hid (But g w w1) := hb1
    generalize (tCount b m ⟨p, 0, 0⟩).2.pos = q0 at *
    clear hr hi1 hb1 hg HG HA hn hn2 C r0 h
    go_wp2
    go_loopw [23, 10] (fun i s wr => ∃ (k q : Nat) (done : List Int), i = .int .i64 k ∧ Far (tByte b) n ⟨q0, 0, 0⟩ k done q ∧ wr.ownsRow w.heap.size 5 1 s k ((iVals .u8) done) ∧ InBy w0 g A c b q wr ∧ But g w wr) (fun i _ _ => n - (intOf i).toNat)
    case atStart => exact ⟨0, q0, [], rfl, far_start _ _ _, World.ownsRow_nil _ _ _ _, H1.out, B1.out⟩
    case round =>
      obtain ⟨k, q, done, rfl, hfar, hown, hin, hbut⟩ := hrel
      have hdl := hfar.1
      have hkn := hfar.2.1
      have HF : Hid (Far (tByte b) n ⟨q0, 0, 0⟩ k done q) := hfar
      have B2 : Hid (But g w wr) := hbut
      have hsz := hbut.2.2.2.1
      obtain ⟨As, ns, cs, rfl⟩ := any_form hown
      clear hfar hbut
      by_cases hlt : k < n
      · have C := nextb_any w0 g A c b q wr hin
        by_cases hg : (tByte b ⟨q, 0, 0⟩).2.bad = 0
        · go_wp2_with fail
          refine C.mono ?_
          intro r w2 hr
          obtain ⟨rfl, hin2, hb2⟩ := hr.ok hg
          have HX : Hid _ := far_next (plain_byte b) HF.out hlt hg
          have hown2 := row_but hown hgw hb2
          have hsz2 := hb2.2.2.2.1
          clear hr C hown hin
          have HB2 : Hid (But g w w2) := B2.out.trans hb2
          clear hb2 hg
          generalize tByte b ⟨q, 0, 0⟩ = F at *
          obtain ⟨x, t⟩ := F
          simp only at hin2 HX ⊢
          have hin3 := hin2.keep (lb_alloc (Below.refl _ _) (.cells #[.int .u8 x] 5))
          have hown3 := hown2.alloc (.cells #[.int .u8 x] 5)
          have HB3 : Hid (But g w (w2.alloc (.cells #[.int .u8 x] 5))) := HB2.out.on (lb_alloc (Below.refl _ _) _)
          have hc : ∀ j u, ([.int .u8 x] : List Value)[j]? = some u → (w2.alloc (.cells #[.int .u8 x] 5)).cell? ((⟨w2.heap.size, 0, none⟩ : Addr).add j) = some u := new_cells _ _ _ (by simp)
          have hone : ∀ u ∈ ([.int .u8 x] : List Value), u.oneCell' = true := by simp [Value.oneCell']
          go_wp2_with (at_builtin; refine wpList_append_own _ rfl (.tmp 33) (.tmp 35) 86 rfl w.heap.size 5 i0 (.int .u8 0) 1 1 Tryz.underlying86 hi hz0 hz1 hz2 rfl (by decide) (.slice As ns cs) k ((iVals .u8) done) rfl hown3 ⟨w2.heap.size, 0, none⟩ 1 1 [.int .u8 x] rfl rfl hc hone (by unfold maxLen; omega) (by omega) (by simp; omega) ?_; intro v' w' hown' hgrow hnil)
          have hr4 : ∀ j, (Value.slice As ns cs).ownBlock = some j → w.heap.size ≤ j := fun j hj => (hown3.lt j hj).1
          have hin4 := in_grown hin3 hgrow hr4 hgw
          have hb4 := but_grown HB3.out hgrow hr4
          go_roundw
          case rel => exact ⟨k + 1, _, _, by go_num, HX.out, by rw [show (iVals .u8) (done ++ [_]) = (iVals .u8) done ++ [.int .u8 x] from iVals_snoc _ _ _]; exact hown', hin4, hb4⟩
          case measure => simp [intOf]; omega
        · go_wp2_with fail
          refine C.mono ?_
          intro r w2 hr
          obtain ⟨_, p2, rfl, rfl, hin2, hb2⟩ := hr.err hg
          have HX : Hid _ := far_bad HF.out hlt hg
          have HG : Hid _ := hg
          clear hr hg C
          generalize tByte b ⟨q, 0, 0⟩ = F at *
          go_wp2
          go_ret2
          exact takesL_no (B2.out.trans hb2) (by rw [HA2.out]; exact HX.out) HG.out hin2
      · obtain rfl : k = n := by omega
        go_wp2
        go_ret2
        exact takesL_yes B2.out (by rw [HA2.out]; exact far_end HF.out) (by rw [hdl]; exact hown) hin
  · have HA : Hid _ := all_bad (f := tByte b) hg
    have HG : Hid _ := hg
    go_enter Tryz.func165, Tryz.ntmps165
    go_wp2_with fail
    refine C.mono ?_
    intro r w1 hr
    obtain ⟨_, p2, rfl, rfl, hi1, hb1⟩ := hr.err hg
    clear hr hg
    generalize (tCount b m ⟨p, 0, 0⟩).2 = T at *
    go_wp2
    go_ret2
    exact takesL_no hb1 HA.out HG.out hi1


end Go.Proofs.YthpkekpojhmaaaaGreatDoor
