/-
  Lists that are not there lie apart. A bag: do its lists lie apart? Kind by kind.
-/
import Derived.Test.YthhfkcmoncgknaaDoorProg
import Derived.WalkKit
import Derived.WalkSpells
import Derived.WalkLawsBesides
import Derived.RowKit3
import Derived.Below
import Derived.Deep.QuietTactic
import Derived.BigQuiet
import Derived.WalkSmall
import Derived.Laws.Rows
import Derived.Test.YthhfkcmoncgknaaDoorPf03
namespace Go.Proofs.YthhfkcmoncgknaaDoor
open Go.RowKit


set_option maxRecDepth 100000 in
set_option maxHeartbeats 1000000 in
theorem none_53 (B : Nat) (w : World) (hb : w.cell? ⟨B, 11, none⟩ = some (.slice none 0 0)) : Calls Tryd.prog 37 #[.pointer (some ⟨B, 0, none⟩)] w fun r w' => r = .returned (.bool true) ∧ w' = w := by
  go_enter Tryd.func37, Tryd.ntmps37
  go_wp2
  go_loopw [3] (fun n wr => n = .int .i64 0 ∧ wr = w) (fun _ _ => 0)
  case atStart => exact ⟨rfl, rfl⟩
  case round =>
    obtain ⟨rfl, rfl⟩ := hrel
    go_wp2
    go_loopw [7, 6] (fun n m w2 => n = .int .i64 0 ∧ m = .slice none 0 0 ∧ w2 = wr) (fun _ _ _ => 0)
    case atStart => exact ⟨rfl, rfl, rfl⟩
    case round =>
      obtain ⟨rfl, rfl, rfl⟩ := hrel
      go_wp2
      go_loopw [10] (fun n w3 => n = .int .i64 0 ∧ w3 = wr) (fun _ _ => 0)
      case atStart => exact ⟨rfl, rfl⟩
      case round =>
        obtain ⟨rfl, rfl⟩ := hrel
        go_wp2
        go_ret
        exact ⟨rfl, rfl⟩

set_option maxRecDepth 100000 in
set_option maxHeartbeats 1000000 in
theorem none_54 (B : Nat) (w : World) (hb : w.cell? ⟨B, 12, none⟩ = some (.slice none 0 0)) : Calls Tryd.prog 38 #[.pointer (some ⟨B, 0, none⟩)] w fun r w' => r = .returned (.bool true) ∧ w' = w := by
  go_enter Tryd.func38, Tryd.ntmps38
  go_wp2
  go_loopw [3] (fun n wr => n = .int .i64 0 ∧ wr = w) (fun _ _ => 0)
  case atStart => exact ⟨rfl, rfl⟩
  case round =>
    obtain ⟨rfl, rfl⟩ := hrel
    go_wp2
    go_loopw [7, 6] (fun n m w2 => n = .int .i64 0 ∧ m = .slice none 0 0 ∧ w2 = wr) (fun _ _ _ => 0)
    case atStart => exact ⟨rfl, rfl, rfl⟩
    case round =>
      obtain ⟨rfl, rfl, rfl⟩ := hrel
      go_wp2
      go_loopw [10] (fun n w3 => n = .int .i64 0 ∧ w3 = wr) (fun _ _ => 0)
      case atStart => exact ⟨rfl, rfl⟩
      case round =>
        obtain ⟨rfl, rfl⟩ := hrel
        go_wp2
        go_ret
        exact ⟨rfl, rfl⟩

set_option maxRecDepth 100000 in
set_option maxHeartbeats 1000000 in
theorem none_55 (B : Nat) (w : World) (hb : w.cell? ⟨B, 13, none⟩ = some (.slice none 0 0)) : Calls Tryd.prog 39 #[.pointer (some ⟨B, 0, none⟩)] w fun r w' => r = .returned (.bool true) ∧ w' = w := by
  go_enter Tryd.func39, Tryd.ntmps39
  go_wp2
  go_loopw [3] (fun n wr => n = .int .i64 0 ∧ wr = w) (fun _ _ => 0)
  case atStart => exact ⟨rfl, rfl⟩
  case round =>
    obtain ⟨rfl, rfl⟩ := hrel
    go_wp2
    go_loopw [7, 6] (fun n m w2 => n = .int .i64 0 ∧ m = .slice none 0 0 ∧ w2 = wr) (fun _ _ _ => 0)
    case atStart => exact ⟨rfl, rfl, rfl⟩
    case round =>
      obtain ⟨rfl, rfl, rfl⟩ := hrel
      go_wp2
      go_loopw [10] (fun n w3 => n = .int .i64 0 ∧ w3 = wr) (fun _ _ => 0)
      case atStart => exact ⟨rfl, rfl⟩
      case round =>
        obtain ⟨rfl, rfl⟩ := hrel
        go_wp2
        go_ret
        exact ⟨rfl, rfl⟩

set_option maxRecDepth 100000 in
set_option maxHeartbeats 1000000 in
theorem none_56 (B : Nat) (w : World) (hb : w.cell? ⟨B, 14, none⟩ = some (.slice none 0 0)) : Calls Tryd.prog 40 #[.pointer (some ⟨B, 0, none⟩)] w fun r w' => r = .returned (.bool true) ∧ w' = w := by
  go_enter Tryd.func40, Tryd.ntmps40
  go_wp2
  go_loopw [3] (fun n wr => n = .int .i64 0 ∧ wr = w) (fun _ _ => 0)
  case atStart => exact ⟨rfl, rfl⟩
  case round =>
    obtain ⟨rfl, rfl⟩ := hrel
    go_wp2
    go_loopw [7, 6] (fun n m w2 => n = .int .i64 0 ∧ m = .slice none 0 0 ∧ w2 = wr) (fun _ _ _ => 0)
    case atStart => exact ⟨rfl, rfl, rfl⟩
    case round =>
      obtain ⟨rfl, rfl, rfl⟩ := hrel
      go_wp2
      go_loopw [10] (fun n w3 => n = .int .i64 0 ∧ w3 = wr) (fun _ _ => 0)
      case atStart => exact ⟨rfl, rfl⟩
      case round =>
        obtain ⟨rfl, rfl⟩ := hrel
        go_wp2
        go_ret
        exact ⟨rfl, rfl⟩

set_option maxRecDepth 100000 in
set_option maxHeartbeats 1000000 in
theorem none_57 (B : Nat) (w : World) (hb : w.cell? ⟨B, 15, none⟩ = some (.slice none 0 0)) : Calls Tryd.prog 41 #[.pointer (some ⟨B, 0, none⟩)] w fun r w' => r = .returned (.bool true) ∧ w' = w := by
  go_enter Tryd.func41, Tryd.ntmps41
  go_wp2
  go_loopw [3] (fun n wr => n = .int .i64 0 ∧ wr = w) (fun _ _ => 0)
  case atStart => exact ⟨rfl, rfl⟩
  case round =>
    obtain ⟨rfl, rfl⟩ := hrel
    go_wp2
    go_loopw [7, 6] (fun n m w2 => n = .int .i64 0 ∧ m = .slice none 0 0 ∧ w2 = wr) (fun _ _ _ => 0)
    case atStart => exact ⟨rfl, rfl, rfl⟩
    case round =>
      obtain ⟨rfl, rfl, rfl⟩ := hrel
      go_wp2
      go_loopw [10] (fun n w3 => n = .int .i64 0 ∧ w3 = wr) (fun _ _ => 0)
      case atStart => exact ⟨rfl, rfl⟩
      case round =>
        obtain ⟨rfl, rfl⟩ := hrel
        go_wp2
        go_ret
        exact ⟨rfl, rfl⟩

set_option maxRecDepth 100000 in
set_option maxHeartbeats 1000000 in
theorem none_58 (B : Nat) (w : World) (hb : w.cell? ⟨B, 16, none⟩ = some (.slice none 0 0)) : Calls Tryd.prog 42 #[.pointer (some ⟨B, 0, none⟩)] w fun r w' => r = .returned (.bool true) ∧ w' = w := by
  go_enter Tryd.func42, Tryd.ntmps42
  go_wp2
  go_loopw [3] (fun n wr => n = .int .i64 0 ∧ wr = w) (fun _ _ => 0)
  case atStart => exact ⟨rfl, rfl⟩
  case round =>
    obtain ⟨rfl, rfl⟩ := hrel
    go_wp2
    go_loopw [7, 6] (fun n m w2 => n = .int .i64 0 ∧ m = .slice none 0 0 ∧ w2 = wr) (fun _ _ _ => 0)
    case atStart => exact ⟨rfl, rfl, rfl⟩
    case round =>
      obtain ⟨rfl, rfl, rfl⟩ := hrel
      go_wp2
      go_loopw [10] (fun n w3 => n = .int .i64 0 ∧ w3 = wr) (fun _ _ => 0)
      case atStart => exact ⟨rfl, rfl⟩
      case round =>
        obtain ⟨rfl, rfl⟩ := hrel
        go_wp2
        go_ret
        exact ⟨rfl, rfl⟩





end Go.Proofs.YthhfkcmoncgknaaDoor

namespace Go.Proofs.YthhfkcmoncgknaaDoor
open Go.RowKit


set_option maxRecDepth 100000 in
set_option maxHeartbeats 2000000 in
theorem apart_any (B : Nat) (I : Nat → World → Prop) (h : ∀ k, k < 17 → ∀ w, I k w → Calls Tryd.prog (26 + k) #[.pointer (some ⟨B, 0, none⟩)] w fun r w' => r = .returned (.bool true) ∧ I (k + 1) w') (w0 : World) (h0 : I 0 w0) :
    Calls Tryd.prog 13 #[.pointer (some ⟨B, 0, none⟩)] w0 fun r w' => r = .returned (.bool true) ∧ I 17 w' := by
  have H : Hid _ := h
  have H0 : Hid _ := h0
  clear h h0
  go_enter Tryd.func13, Tryd.ntmps13
  go_wp2_with fail
  refine (H.out 0 (by omega) _ H0.out).mono ?_
  rintro r w1 ⟨rfl, h1⟩
  have H1 : Hid _ := h1
  clear h1
  go_wp2_with fail
  refine (H.out 1 (by omega) _ H1.out).mono ?_
  rintro r w2 ⟨rfl, h2⟩
  have H2 : Hid _ := h2
  clear h2
  go_wp2_with fail
  refine (H.out 2 (by omega) _ H2.out).mono ?_
  rintro r w3 ⟨rfl, h3⟩
  have H3 : Hid _ := h3
  clear h3
  go_wp2_with fail
  refine (H.out 3 (by omega) _ H3.out).mono ?_
  rintro r w4 ⟨rfl, h4⟩
  have H4 : Hid _ := h4
  clear h4
  go_wp2_with fail
  refine (H.out 4 (by omega) _ H4.out).mono ?_
  rintro r w5 ⟨rfl, h5⟩
  have H5 : Hid _ := h5
  clear h5
  go_wp2_with fail
  refine (H.out 5 (by omega) _ H5.out).mono ?_
  rintro r w6 ⟨rfl, h6⟩
  have H6 : Hid _ := h6
  clear h6
  go_wp2_with fail
  refine (H.out 6 (by omega) _ H6.out).mono ?_
  rintro r w7 ⟨rfl, h7⟩
  have H7 : Hid _ := h7
  clear h7
  go_wp2_with fail
  refine (H.out 7 (by omega) _ H7.out).mono ?_
  rintro r w8 ⟨rfl, h8⟩
  have H8 : Hid _ := h8
  clear h8
  go_wp2_with fail
  refine (H.out 8 (by omega) _ H8.out).mono ?_
  rintro r w9 ⟨rfl, h9⟩
  have H9 : Hid _ := h9
  clear h9
  go_wp2_with fail
  refine (H.out 9 (by omega) _ H9.out).mono ?_
  rintro r w10 ⟨rfl, h10⟩
  have H10 : Hid _ := h10
  clear h10
  go_wp2_with fail
  refine (H.out 10 (by omega) _ H10.out).mono ?_
  rintro r w11 ⟨rfl, h11⟩
  have H11 : Hid _ := h11
  clear h11
  go_wp2_with fail
  refine (H.out 11 (by omega) _ H11.out).mono ?_
  rintro r w12 ⟨rfl, h12⟩
  have H12 : Hid _ := h12
  clear h12
  go_wp2_with fail
  refine (H.out 12 (by omega) _ H12.out).mono ?_
  rintro r w13 ⟨rfl, h13⟩
  have H13 : Hid _ := h13
  clear h13
  go_wp2_with fail
  refine (H.out 13 (by omega) _ H13.out).mono ?_
  rintro r w14 ⟨rfl, h14⟩
  have H14 : Hid _ := h14
  clear h14
  go_wp2_with fail
  refine (H.out 14 (by omega) _ H14.out).mono ?_
  rintro r w15 ⟨rfl, h15⟩
  have H15 : Hid _ := h15
  clear h15
  go_wp2_with fail
  refine (H.out 15 (by omega) _ H15.out).mono ?_
  rintro r w16 ⟨rfl, h16⟩
  have H16 : Hid _ := h16
  clear h16
  go_wp2_with fail
  refine (H.out 16 (by omega) _ H16.out).mono ?_
  rintro r w17 ⟨rfl, h17⟩
  have H17 : Hid _ := h17
  clear h17
  go_wp2
  go_ret
  exact ⟨rfl, H17.out⟩





end Go.Proofs.YthhfkcmoncgknaaDoor
