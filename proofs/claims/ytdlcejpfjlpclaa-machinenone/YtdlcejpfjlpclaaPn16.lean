/-
  Deeds of the program's machine: trap, set, jump, halt.
-/
import Derived.Test.YtdlcejpfjlpclaaProg
import Derived.WalkKit
import Derived.WalkSpells
import Derived.WalkLawsBesides
import Derived.RowKit3
import Derived.Below
import Derived.Deep.QuietTactic
import Derived.BigQuiet
import Derived.WalkSmall
import Derived.Laws.Rows
import Derived.Test.YtdlcejpfjlpclaaPn10
namespace Go.Proofs.Ytdlcejpfjlpclaa
open Go.RowKit

section
variable {w : World} {base P : Nat} {s : Loc} {m : Mach}
theorem trap_any (_h : PAt w base P s m) (op d a b n : Int) : Calls Try.prog 37 #[.pointer (some ⟨P, 0, none⟩), .agg #[.int .i8 op, .int .i8 d, .int .i8 a, .int .i8 b, .int .i64 n]] w (DidP w base P s m (noD m 2)) := by
  go_enter Try.func37, Try.ntmps37
  go_wp2
  exact ⟨rfl, did_no (by decide) (lb_alloc (Below.refl _ _) _)⟩
theorem jump_any (h : PAt w base P s m) (_hm : Fine m) (_hp : m.pc < 16384) {op d a b n : Int} (hi : InsIn op d a b n) (hq : op = 15) : Calls Try.prog 45 #[.pointer (some ⟨P, 0, none⟩), .agg #[.int .i8 op, .int .i8 d, .int .i8 a, .int .i8 b, .int .i64 n]] w (DidP w base P s m (goD m n)) := by
  have hn := (hi.pl (.inl hq)).1
  clear hq
  have h2 := h.alloc (.cells #[.int .i8 op, .int .i8 d, .int .i8 a, .int .i8 b, .int .i64 n] 58)
  go_enter Try.func45, Try.ntmps45
  go_wp2
  go_ret
  exact did_yes rfl (by simp [goD]; omega) h2 ((Upto.refl _ _).alloc _)
theorem halt_any (h : PAt w base P s m) (hm : Fine m) (_hp : m.pc < 16384) {op d a b n : Int} (_hi : InsIn op d a b n) : Calls Try.prog 51 #[.pointer (some ⟨P, 0, none⟩), .agg #[.int .i8 op, .int .i8 d, .int .i8 a, .int .i8 b, .int .i64 n]] w (DidP w base P s m (haltD m)) := by
  have h2 := (h.status hm.sixteen 1).alloc (.cells #[.int .i8 op, .int .i8 d, .int .i8 a, .int .i8 b, .int .i64 n] 58)
  obtain ⟨c0, c1, c34, c35, c36, c37, c38, c39⟩ := h.cells hm.sixteen
  have f9 := h.fro 39
  have hP := h.lt
  clear h
  go_enter Try.func51, Try.ntmps51
  go_wp2
  go_ret
  exact did_yes rfl rfl h2 (((Upto.refl _ _).set (Or.inl (Or.inl rfl)) _ _).alloc _)
theorem set_any (h : PAt w base P s m) (hm : Fine m) (_hp : m.pc < 16384) {op d a b n : Int} (hi : InsIn op d a b n) : Calls Try.prog 38 #[.pointer (some ⟨P, 0, none⟩), .agg #[.int .i8 op, .int .i8 d, .int .i8 a, .int .i8 b, .int .i64 n]] w (DidP w base P s m (putD m d (n, false))) := by
  have C1 := plain_any n
  obtain ⟨k, hk0⟩ := Int.eq_ofNat_of_zero_le hi.d0
  have hk : k < 16 := by have := hi.d1; omega
  subst hk0
  have C2 := fun (W : World) (h : PAt W base P s m) => put_any h hm k hk (n, false)
  have hP := h.lt
  go_enter Try.func38, Try.ntmps38
  go_wp2_with fail
  go_region_with (first
    | (go_at_call 21; refine (C1 _).mono ?_; rintro e w1 ⟨rfl, rfl⟩)
    | (go_at_call 55; refine (C2 _ (by repeat (first | assumption | apply PAt.drew | apply PAt.alloc))).mono ?_; rintro e w1 ⟨rfl, hq, hu⟩))
  all_goals (
    go_wp2
    go_ret
    exact did_put rfl hq (Upto.trans (by repeat (first | exact Upto.refl _ _ | apply Upto.drew | apply Upto.alloc)) hu))
theorem place_any (h : PAt w base P s m) (hm : Fine m) (_hp : m.pc < 16384) {op d a b n : Int} (hi : InsIn op d a b n) : Calls Try.prog 50 #[.pointer (some ⟨P, 0, none⟩), .agg #[.int .i8 op, .int .i8 d, .int .i8 a, .int .i8 b, .int .i64 n]] w (DidP w base P s m (putD m d (n, true))) := by
  have C1 := sealed_any n
  obtain ⟨k, hk0⟩ := Int.eq_ofNat_of_zero_le hi.d0
  have hk : k < 16 := by have := hi.d1; omega
  subst hk0
  have C2 := fun (W : World) (h : PAt W base P s m) => put_any h hm k hk (n, true)
  have hP := h.lt
  go_enter Try.func50, Try.ntmps50
  go_wp2_with fail
  go_region_with (first
    | (go_at_call 62; refine (C1 _).mono ?_; rintro e w1 ⟨rfl, rfl⟩)
    | (go_at_call 55; refine (C2 _ (by repeat (first | assumption | apply PAt.drew | apply PAt.alloc))).mono ?_; rintro e w1 ⟨rfl, hq, hu⟩))
  all_goals (
    go_wp2
    go_ret
    exact did_put rfl hq (Upto.trans (by repeat (first | exact Upto.refl _ _ | apply Upto.drew | apply Upto.alloc)) hu))
end

end Go.Proofs.Ytdlcejpfjlpclaa
