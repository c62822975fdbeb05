/-
  The document's Equal.
-/
import Derived.Test.YtmlhnnmelopleaaGreatDoorProg
import Derived.WalkKit
import Derived.WalkSpells
import Derived.WalkLawsBesides
import Derived.RowKit3
import Derived.Below
import Derived.Deep.QuietTactic
import Derived.BigQuiet
import Derived.WalkSmall
import Derived.Laws.Rows
import Derived.Test.YtmlhnnmelopleaaGreatDoorPs49
import Derived.Test.YtmlhnnmelopleaaGreatDoorPs14
import Derived.Test.YtmlhnnmelopleaaGreatDoorPs13
import Derived.Deep.Cut
import Derived.Deep.RegionHeld3
namespace Go.Proofs.YtmlhnnmelopleaaGreatDoor
open Go.RowKit

theorem k_call {n : Nat} {w W W' : World} {p q r : Addr} {a b c : Value} (h : Below n w W ∧ W.cell? p = some a ∧ W.cell? q = some b ∧ W.cell? r = some c) (hb : Below W.heap.size W W') (hn : n ≤ W.heap.size) : Below n w W' ∧ W'.cell? p = some a ∧ W'.cell? q = some b ∧ W'.cell? r = some c := ⟨h.1.trans (hb.mono hn), lkeep hb h.2.1, lkeep hb h.2.2.1, lkeep hb h.2.2.2⟩
theorem k_drew {w W : World} {p q r : Addr} {a b c : Value} (h : Below w.heap.size w W) (h1 : W.cell? p = some a) (h2 : W.cell? q = some b) (h3 : W.cell? r = some c) : Below w.heap.size w W.drew ∧ W.drew.cell? p = some a ∧ W.drew.cell? q = some b ∧ W.drew.cell? r = some c :=
  have hd : Below W.heap.size W W.drew := (Below.refl _ _).drew
  ⟨h.drew, lkeep hd h1, lkeep hd h2, lkeep hd h3⟩
set_option maxRecDepth 100000 in
set_option maxHeartbeats 8000000 in
theorem equal_any (a1 : Addr) (A2 : Option Addr) (c1 ml c2 : Nat) (ent : Int) (text : List Int) (n a b : Nat) (w : World) (hT : IntsAt w (some a1) .u32 text) (hR : ∀ i, i < text.length → 0 ≤ nth text i ∧ nth text i < 4294967296) (hl : text.length ≤ 16384) (ha : a + n ≤ text.length) (hb : b + n ≤ text.length) :
    Calls Tryz.prog 39 #[.agg #[.slice (some a1) text.length c1, .int .i64 ent, .slice A2 ml c2], .int .i64 (n : Int), .int .i64 (a : Int), .int .i64 (b : Int)] w fun e w' => e = .returned (.bool (sameB text n a b)) ∧ Below w.heap.size w w' := by
  obtain ⟨X, HX⟩ : ∃ X, Hid (w.alloc (.cells #[.slice (some a1) text.length c1, .int .i64 ent, .slice A2 ml c2] 31) = X) := ⟨_, rfl⟩
  have HB : Hid (Below w.heap.size w X) := by unfold Hid; rw [← HX.out]; exact lb_alloc (Below.refl _ _) _
  have i0 : X.cell? ⟨w.heap.size, 0, none⟩ = some (.slice (some a1) text.length c1) := by rw [← HX.out]; simp [go_sem]
  have i1 : X.cell? ⟨w.heap.size, 1, none⟩ = some (.int .i64 ent) := by rw [← HX.out]; simp [go_sem]
  have i2 : X.cell? ⟨w.heap.size, 2, none⟩ = some (.slice A2 ml c2) := by rw [← HX.out]; simp [go_sem]
  have HTX : Hid (IntsAt X (some a1) .u32 text) := hT.keep HB.out
  have HR : Hid (∀ i, i < text.length → 0 ≤ nth text i ∧ nth text i < 4294967296) := hR
  have HV : Hid (sameB text n a b = !hasN (fun i => (nth text (a + i) != nth text (b + i)) || alB (nth text (a + i))) n) := rfl
  have ha4 : (a : Int) ≤ 16384 := by omega
  have hb4 : (b : Int) ≤ 16384 := by omega
  have hn4 : (n : Int) ≤ 16384 := by omega
  have Hab : Hid (a + n ≤ text.length ∧ b + n ≤ text.length) := ⟨ha, hb⟩
  clear hT hR ha hb
  go_enter Tryz.func39, Tryz.ntmps39
  go_upto_region 1 with fail
  rw [HX.out]
  clear HX
  go_wp2
  go_loopw [9] (fun i wr => ∃ k : Nat, i = .int .i64 (k : Int) ∧ k ≤ n ∧ Hid (∀ j, j < k → ((nth text (a + j) != nth text (b + j)) || alB (nth text (a + j))) = false) ∧ Hid (Below X.heap.size X wr)) (fun i _ => n - (intOf i).toNat)
  case atStart => exact ⟨0, rfl, Nat.zero_le _, fun j hj => absurd hj (Nat.not_lt_zero _), Below.refl _ _⟩
  case round =>
    obtain ⟨k, rfl, hk, HN, HBr⟩ := hrel
    by_cases hlt : k < n
    · have hlt' : (k : Int) < (n : Int) := by omega
      obtain ⟨u, hu⟩ : ∃ u, Hid (u = a + k) := ⟨_, rfl⟩
      obtain ⟨v, hv⟩ : ∃ v, Hid (v = b + k) := ⟨_, rfl⟩
      have hu2 : u < text.length := by have := Hab.out; have := hu.out; omega
      have hv2 : v < text.length := by have := Hab.out; have := hv.out; omega
      have hu1 : (a : Int) + (k : Int) = (u : Int) := by have := hu.out; omega
      have hv1 : (b : Int) + (k : Int) = (v : Int) := by have := hv.out; omega
      have hu3 : (u : Int) < (text.length : Int) := by omega
      have hv3 : (v : Int) < (text.length : Int) := by omega
      have wu : IntKind.i64.wrap (u : Int) = (u : Int) := by simp [IntKind.wrap, IntKind.signed, IntKind.bits]; omega
      have wv : IntKind.i64.wrap (v : Int) = (v : Int) := by simp [IntKind.wrap, IntKind.signed, IntKind.bits]; omega
      obtain ⟨x, ex, q1⟩ := (HTX.out.keep HBr.out) u hu2
      obtain rfl := Option.some.inj ex
      obtain ⟨x, ex, q2⟩ := (HTX.out.keep HBr.out) v hv2
      obtain rfl := Option.some.inj ex
      obtain ⟨v0, v1⟩ := HR.out u hu2
      have r0 := lkeep HBr.out i0
      have HF : Hid (∀ d : Bool, ((nth text u != nth text v) || alB (nth text u)) = d → ((nth text (a + k) != nth text (b + k)) || alB (nth text (a + k))) = d) := fun d h => by rw [← hu.out, ← hv.out]; exact h
      have hBr := HBr.out
      generalize nth text u = x1 at *
      generalize nth text v = x2 at *
      by_cases he : x1 = x2
      · have C := fun wx => refalone_any x1 v0 v1 wx
        subst he
        have hne : (x1 != x1) = false := by simp
        cases hal : alB x1 with
        | true =>
          have HVt : Hid (sameB text n a b = false) := by
            unfold Hid
            rw [HV.out, hasN_yes (f := fun i => (nth text (a + i) != nth text (b + i)) || alB (nth text (a + i))) hlt (HF.out true (by rw [hal, Bool.or_true]))]; rfl
          rw [hal] at C
          clear hal HF HN HV hu hv
          go_upto_region 4 with fail
          go_region_held3 (fun W => Below X.heap.size X W ∧ W.cell? ⟨w.heap.size, 0, none⟩ = some (.slice (some a1) text.length c1) ∧ W.cell? (a1.add u) = some (.int .u32 x1) ∧ W.cell? (a1.add v) = some (.int .u32 x1)) (with_reducible (first | exact k_drew hBr r0 q1 q2 | exact k_call ‹Below _ _ _ ∧ _› hb (‹Below _ _ _ ∧ _›).1.size)) ((go_at_call 29; refine (C _).mono ?_; rintro e w1 ⟨rfl, hb⟩))
          rename_i hS
          have sB : Hid _ := hS.1
          clear hS
          go_wp2
          go_ret
          exact ⟨by rw [HVt.out]; rfl, lb_trans HB.out sB.out⟩
        | false =>
          have HN2 : Hid (∀ j, j < k + 1 → ((nth text (a + j) != nth text (b + j)) || alB (nth text (a + j))) = false) := fun j hj => by
            by_cases e : j = k
            · rw [e]; exact HF.out false (by rw [hal]; simp)
            · exact HN.out j (by omega)
          rw [hal] at C
          clear hal HF HN hu hv
          go_upto_region 4 with fail
          go_region_held3 (fun W => Below X.heap.size X W ∧ W.cell? ⟨w.heap.size, 0, none⟩ = some (.slice (some a1) text.length c1) ∧ W.cell? (a1.add u) = some (.int .u32 x1) ∧ W.cell? (a1.add v) = some (.int .u32 x1)) (with_reducible (first | exact k_drew hBr r0 q1 q2 | exact k_call ‹Below _ _ _ ∧ _› hb (‹Below _ _ _ ∧ _›).1.size)) ((go_at_call 29; refine (C _).mono ?_; rintro e w1 ⟨rfl, hb⟩))
          rename_i hS
          have sB : Hid _ := hS.1
          clear hS
          go_wp2
          go_roundw
          case rel => exact ⟨k + 1, by go_num, by omega, HN2, sB⟩
          case measure => simp [intOf]; omega
      · have hne : (x1 != x2) = true := by simpa using he
        have HVt : Hid (sameB text n a b = false) := by
          unfold Hid
          rw [HV.out, hasN_yes (f := fun i => (nth text (a + i) != nth text (b + i)) || alB (nth text (a + i))) hlt (HF.out true (by rw [hne, Bool.true_or]))]; rfl
        clear HF HN HV hu hv he
        go_upto_region 4 with fail
        go_big_quiet (fail)
        go_wp2
        go_ret
        exact ⟨by rw [HVt.out]; rfl, lb_trans HB.out (by first | exact below_drewN hBr _ | exact hBr)⟩
    · obtain rfl : k = n := by omega
      have HVt : Hid (sameB text k a b = true) := by
        unfold Hid
        rw [HV.out, hasN_no HN.out]; rfl
      have hlt' : ¬ (k : Int) < (k : Int) := by omega
      clear HV
      go_wp2
      go_ret
      exact ⟨by rw [HVt.out]; rfl, lb_trans HB.out HBr.out⟩

end Go.Proofs.YtmlhnnmelopleaaGreatDoor
