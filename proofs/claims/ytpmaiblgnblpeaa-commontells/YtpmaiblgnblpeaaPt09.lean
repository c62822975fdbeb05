/-
  The document's Least and Group.
-/
import Derived.Test.YtpmaiblgnblpeaaProg
import Derived.WalkKit
import Derived.WalkSpells
import Derived.WalkLawsBesides
import Derived.RowKit3
import Derived.Below
import Derived.Deep.QuietTactic
import Derived.BigQuiet
import Derived.WalkSmall
import Derived.Laws.Rows
import Derived.Test.YtpmaiblgnblpeaaPt08
import Derived.Lib.MinMax
import Derived.OwnWalk
namespace Go.Proofs.Ytpmaiblgnblpeaa
open Go.RowKit

theorem min_case (a b : Int) : (a ≤ b ∧ min a b = a) ∨ (b < a ∧ min a b = b) := by omega
/-- What Least has found: the least of the last number and of those from a to below j. -/
structure LsI (p : List Int) (a h j : Nat) (m : Int) : Prop where
  le : m ≤ nth p h ∧ ∀ t, a ≤ t → t < j → m ≤ nth p t
  is : m = nth p h ∨ ∃ t, a ≤ t ∧ t < j ∧ nth p t = m
theorem LsI.next {p : List Int} {a h j : Nat} {m : Int} (s : LsI p a h j m) (ha : a ≤ j) : LsI p a h (j + 1) (min m (nth p j)) := by
  rcases min_case m (nth p j) with ⟨c, e⟩ | ⟨c, e⟩
  · rw [e]
    refine ⟨⟨s.le.1, fun t h1 h2 => ?_⟩, ?_⟩
    · by_cases x : t = j
      · rw [x]; exact c
      · exact s.le.2 t h1 (by omega)
    · rcases s.is with x | ⟨t, h1, h2, h3⟩
      · exact .inl x
      · exact .inr ⟨t, h1, by omega, h3⟩
  · rw [e]
    have h0 := s.le.1
    refine ⟨⟨by omega, fun t h1 h2 => ?_⟩, .inr ⟨j, ha, by omega, rfl⟩⟩
    by_cases x : t = j
    · rw [x]; exact Int.le_refl _
    · have := s.le.2 t h1 (by omega); omega
theorem LsI.all {p : List Int} {a h : Nat} {m : Int} (s : LsI p a h h m) (ha : a ≤ h) : m = minR p a (h - a) := by
  refine minR_uniq (fun j h1 h2 => ?_) ?_
  · by_cases x : j = h
    · rw [x]; exact s.le.1
    · exact s.le.2 j h1 (by omega)
  · rcases s.is with x | ⟨t, h1, h2, h3⟩
    · exact ⟨h, ha, by omega, x.symm⟩
    · exact ⟨t, h1, by omega, h3⟩
set_option maxRecDepth 100000 in
set_option maxHeartbeats 4000000 in
theorem refleast_any (A : Option Addr) (c : Nat) (p : List Int) (i k : Int) (w : World) (hA : IntsAt w A .i64 p) (hl : p.length ≤ 16384) :
    Calls Try.prog 8 #[.slice A p.length c, .int .i64 i, .int .i64 k] w (LeR (leI p i k) (leE p i k) w) := by
  unfold LeR
  by_cases hbad : i < 0 ∨ k < 0 ∨ (p.length : Int) ≤ i ∨ (p.length : Int) ≤ k
  · rw [show leI p i k = 0 from if_pos hbad, show leE p i k = 1 from if_pos hbad]
    by_cases h1 : i < 0
    · go_enter Try.func8, Try.ntmps8
      go_wp2
      go_ret2
      exact ⟨rfl, Below.refl _ _⟩
    · by_cases h2 : k < 0
      · go_enter Try.func8, Try.ntmps8
        go_wp2
        go_ret2
        exact ⟨rfl, Below.refl _ _⟩
      · by_cases h3 : (p.length : Int) ≤ i
        · go_enter Try.func8, Try.ntmps8
          go_wp2
          go_ret2
          exact ⟨rfl, Below.refl _ _⟩
        · have h4 : (p.length : Int) ≤ k := by omega
          go_enter Try.func8, Try.ntmps8
          go_wp2
          go_ret2
          exact ⟨rfl, Below.refl _ _⟩
  · rw [show leE p i k = 0 from if_neg hbad]
    obtain ⟨x, rfl⟩ : ∃ x : Nat, i = (x : Int) := ⟨i.toNat, by omega⟩
    obtain ⟨y, rfl⟩ : ∃ y : Nat, k = (y : Int) := ⟨k.toNat, by omega⟩
    have b1 : x < p.length := by omega
    have b2 : y < p.length := by omega
    by_cases he : x = y
    · subst he
      rw [leI_same b1]
      have e1 : ((x : Int) == (x : Int)) = true := by simp
      have b1' : (x : Int) < (p.length : Int) := by omega
      have n1 : ¬ p.length ≤ x := by omega
      clear hbad hA b2
      go_enter Try.func8, Try.ntmps8
      go_wp2
      go_ret2
      exact ⟨rfl, Below.refl _ _⟩
    · have HV : Hid (leI p (x : Int) (y : Int) = minR p (min x y + 1) (max x y - min x y - 1)) := by
        unfold Hid leI
        rw [if_neg hbad, if_neg (by omega)]
        simp
      rw [HV.out]
      have e1 : ((x : Int) == (y : Int)) = false := by simp; omega
      obtain ⟨m, hm⟩ : ∃ m, m = min x y := ⟨_, rfl⟩
      obtain ⟨h, hh⟩ : ∃ h, h = max x y := ⟨_, rfl⟩
      rw [← hm, ← hh]
      have q1 : min (x : Int) (y : Int) = (m : Int) := by omega
      have q2 : max (x : Int) (y : Int) = (h : Int) := by omega
      have q3 : m < h := by omega
      have q4 : h < p.length := by omega
      have q4' : (h : Int) < (p.length : Int) := by omega
      have b1' : (x : Int) < (p.length : Int) := by omega
      have b2' : (y : Int) < (p.length : Int) := by omega
      have n1 : ¬ p.length ≤ x := by omega
      have n2 : ¬ p.length ≤ y := by omega
      obtain ⟨a, rfl, ca⟩ := hA h q4
      have HA : Hid (IntsAt w (some a) .i64 p) := hA
      have HS : Hid (LsI p (m + 1) h (m + 1) (nth p h)) := ⟨⟨Int.le_refl _, fun t h1 h2 => by omega⟩, .inl rfl⟩
      clear hbad HV hA hm hh
      go_enter Try.func8, Try.ntmps8
      go_wp2
      go_loopw [8, 9] (fun u v wr => ∃ (z : Int) (j : Nat), u = .int .i64 z ∧ v = .int .i64 (j : Int) ∧ m + 1 ≤ j ∧ j ≤ h ∧ Hid (LsI p (m + 1) h j z) ∧ Hid (wr = w)) (fun _ v _ => h - (intOf v).toNat)
      case atStart => exact ⟨nth p h, m + 1, rfl, by go_num, by omega, by omega, HS, rfl⟩
      case round =>
        clear ca HS
        obtain ⟨z, j, rfl, rfl, h1, h2, HS, HW⟩ := hrel
        obtain rfl := HW.out.symm
        clear HW
        by_cases hlt : j < h
        · have hlt' : (j : Int) < (h : Int) := by omega
          have hj' : (j : Int) < (p.length : Int) := by omega
          obtain ⟨a', ea, cj⟩ := HA.out j (by omega)
          obtain rfl := Option.some.inj ea
          have HN : Hid (LsI p (m + 1) h (j + 1) (min z (nth p j))) := HS.out.next h1
          generalize nth p j = v at *
          go_wp2
          go_roundw
          case rel => exact ⟨min z v, j + 1, by first | rfl | go_num, by go_num, by omega, by omega, HN, by first | exact rfl | exact trivial⟩
          case measure => simp [intOf]; omega
        · obtain rfl : j = h := by omega
          have hlt' : ¬ (j : Int) < (j : Int) := by omega
          have HE : Hid (z = minR p (m + 1) (j - m - 1)) := by
            have := HS.out.all (by omega)
            rw [show j - (m + 1) = j - m - 1 by omega] at this
            exact this
          go_wp2
          go_ret2
          exact ⟨by rw [HE.out]; rfl, Below.refl _ _⟩
set_option maxRecDepth 100000 in
set_option maxHeartbeats 4000000 in
theorem refgroup_any (A : Option Addr) (c : Nat) (p : List Int) (i n : Int) (w : World) (hA : IntsAt w A .i64 p) (hl : p.length ≤ 16384) :
    Calls Try.prog 10 #[.slice A p.length c, .int .i64 i, .int .i64 n] w (GrR (gpF p i n) (gpT p i n) (gpE p i n) w) := by
  unfold GrR
  by_cases hbad : i < 0 ∨ (p.length : Int) ≤ i ∨ n < 0
  · rw [show gpF p i n = 0 from if_pos hbad, show gpT p i n = 0 from if_pos hbad, show gpE p i n = 1 from if_pos hbad]
    by_cases h1 : i < 0
    · go_enter Try.func10, Try.ntmps10
      go_wp2
      go_ret3
      exact ⟨rfl, Below.refl _ _⟩
    · by_cases h2 : (p.length : Int) ≤ i
      · go_enter Try.func10, Try.ntmps10
        go_wp2
        go_ret3
        exact ⟨rfl, Below.refl _ _⟩
      · have h3 : n < 0 := by omega
        go_enter Try.func10, Try.ntmps10
        go_wp2
        go_ret3
        exact ⟨rfl, Below.refl _ _⟩
  · obtain ⟨x, rfl⟩ : ∃ x : Nat, i = (x : Int) := ⟨i.toNat, by omega⟩
    have b1 : x < p.length := by omega
    have b1' : (x : Int) < (p.length : Int) := by omega
    have b0 : ¬ n < 0 := by omega
    have n1 : ¬ p.length ≤ x := by omega
    obtain ⟨g1, g2, g3⟩ := gp_ok (p := p) (i := x) (L := n) b1 (by omega)
    rw [g1, g2, g3]
    obtain ⟨a, rfl, -⟩ := hA x b1
    have HA : Hid (IntsAt w (some a) .i64 p) := hA
    clear hA hbad g1 g2 g3
    go_enter Try.func10, Try.ntmps10
    go_wp2
    go_loopw [9] (fun v wr => ∃ (f : Nat), v = .int .i64 (f : Int) ∧ f ≤ x ∧ Hid (grF p n f = grF p n x) ∧ Hid (wr = w)) (fun v _ => (intOf v).toNat)
    case atStart => exact ⟨x, rfl, Nat.le_refl _, rfl, rfl⟩
    case round =>
      obtain ⟨f, rfl, hf, HF, HW⟩ := hrel
      obtain rfl := HW.out.symm
      clear HW
      by_cases f0 : f = 0
      · subst f0
        have HF0 : Hid (grF p n x = 0) := HF.out.symm
        have g0 : ¬ (0 : Int) < 0 := by omega
        clear HF
        go_wp2
        go_loopw [10] (fun v wr => ∃ (t : Nat), v = .int .i64 (t : Int) ∧ t ≤ p.length ∧ Hid (grT p n (p.length - t) t = grT p n (p.length - (x + 1)) (x + 1)) ∧ Hid (wr = w)) (fun v _ => p.length - (intOf v).toNat)
        case atStart => exact ⟨x + 1, by go_num, by omega, rfl, rfl⟩
        case round =>
          obtain ⟨t, rfl, ht, HT, HW⟩ := hrel
          obtain rfl := HW.out.symm
          clear HW
          by_cases t1 : t < p.length
          · have t1' : (t : Int) < (p.length : Int) := by omega
            obtain ⟨a', ea, cj⟩ := HA.out t t1
            obtain rfl := Option.some.inj ea
            have e0 : grT p n (p.length - t) t = if n ≤ nth p t then grT p n (p.length - (t + 1)) (t + 1) else t := by
              rw [show p.length - t = (p.length - (t + 1)) + 1 by omega]; rfl
            by_cases hv : n ≤ nth p t
            · rw [if_pos hv] at e0
              have HT2 : Hid (grT p n (p.length - (t + 1)) (t + 1) = grT p n (p.length - (x + 1)) (x + 1)) := e0.symm.trans HT.out
              clear e0 HT
              generalize nth p t = v at *
              go_wp2
              go_roundw
              case rel => exact ⟨t + 1, by go_num, by omega, HT2, by first | exact rfl | exact trivial⟩
              case measure => simp [intOf]; omega
            · rw [if_neg hv] at e0
              have HT2 : Hid (t = grT p n (p.length - (x + 1)) (x + 1)) := e0.symm.trans HT.out
              clear e0 HT
              generalize nth p t = v at *
              go_wp2
              go_ret3
              exact ⟨by rw [← HT2.out, HF0.out]; rfl, Below.refl _ _⟩
          · obtain rfl : t = p.length := by omega
            have t1' : ¬ (p.length : Int) < (p.length : Int) := by omega
            have HT2 : Hid (p.length = grT p n (p.length - (x + 1)) (x + 1)) := by
              have := HT.out
              rw [Nat.sub_self] at this
              exact this
            go_wp2
            go_ret3
            exact ⟨by rw [← HT2.out, HF0.out]; rfl, Below.refl _ _⟩
      · have g0 : (0 : Int) < (f : Int) := by omega
        have g00 : 0 < f := by omega
        have g1 : (f : Int) < (p.length : Int) := by omega
        obtain ⟨a', ea, cj⟩ := HA.out f (by omega)
        obtain rfl := Option.some.inj ea
        have e0 : grF p n f = if n ≤ nth p f then grF p n (f - 1) else f := by
          obtain ⟨f', rfl⟩ : ∃ f', f = f' + 1 := ⟨f - 1, by omega⟩
          rfl
        by_cases hv : n ≤ nth p f
        · rw [if_pos hv] at e0
          have HF2 : Hid (grF p n (f - 1) = grF p n x) := e0.symm.trans HF.out
          clear e0 HF
          generalize nth p f = v at *
          go_wp2
          go_roundw
          case rel => exact ⟨f - 1, by go_num, by omega, HF2, by first | exact rfl | exact trivial⟩
          case measure => simp [intOf]; omega
        · rw [if_neg hv] at e0
          have HF0 : Hid (grF p n x = f) := HF.out.symm.trans e0
          clear e0 HF
          generalize nth p f = v at *
          go_wp2
          go_loopw [10] (fun v wr => ∃ (t : Nat), v = .int .i64 (t : Int) ∧ t ≤ p.length ∧ Hid (grT p n (p.length - t) t = grT p n (p.length - (x + 1)) (x + 1)) ∧ Hid (wr = w)) (fun v _ => p.length - (intOf v).toNat)
          case atStart => exact ⟨x + 1, by go_num, by omega, rfl, rfl⟩
          case round =>
            clear cj
            obtain ⟨t, rfl, ht, HT, HW⟩ := hrel
            obtain rfl := HW.out.symm
            clear HW
            by_cases t1 : t < p.length
            · have t1' : (t : Int) < (p.length : Int) := by omega
              obtain ⟨a', ea, cj⟩ := HA.out t t1
              obtain rfl := Option.some.inj ea
              have e0 : grT p n (p.length - t) t = if n ≤ nth p t then grT p n (p.length - (t + 1)) (t + 1) else t := by
                rw [show p.length - t = (p.length - (t + 1)) + 1 by omega]; rfl
              by_cases hw : n ≤ nth p t
              · rw [if_pos hw] at e0
                have HT2 : Hid (grT p n (p.length - (t + 1)) (t + 1) = grT p n (p.length - (x + 1)) (x + 1)) := e0.symm.trans HT.out
                clear e0 HT
                generalize nth p t = u at *
                go_wp2
                go_roundw
                case rel => exact ⟨t + 1, by go_num, by omega, HT2, by first | exact rfl | exact trivial⟩
                case measure => simp [intOf]; omega
              · rw [if_neg hw] at e0
                have HT2 : Hid (t = grT p n (p.length - (x + 1)) (x + 1)) := e0.symm.trans HT.out
                clear e0 HT
                generalize nth p t = u at *
                go_wp2
                go_ret3
                exact ⟨by rw [← HT2.out, HF0.out]; rfl, Below.refl _ _⟩
            · obtain rfl : t = p.length := by omega
              have t1' : ¬ (p.length : Int) < (p.length : Int) := by omega
              have HT2 : Hid (p.length = grT p n (p.length - (x + 1)) (x + 1)) := by
                have := HT.out
                rw [Nat.sub_self] at this
                exact this
              go_wp2
              go_ret3
              exact ⟨by rw [← HT2.out, HF0.out]; rfl, Below.refl _ _⟩

end Go.Proofs.Ytpmaiblgnblpeaa
