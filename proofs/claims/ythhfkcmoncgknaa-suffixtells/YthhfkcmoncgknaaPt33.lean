/-
  slices.Clone of a list of ints that has one.
-/
import Derived.Test.YthhfkcmoncgknaaProg
import Derived.WalkKit
import Derived.WalkSpells
import Derived.WalkLawsBesides
import Derived.RowKit3
import Derived.Below
import Derived.Deep.QuietTactic
import Derived.BigQuiet
import Derived.WalkSmall
import Derived.Laws.Rows
import Derived.Test.YthhfkcmoncgknaaPt31
import Derived.Test.YthhfkcmoncgknaaPt32
import Derived.Deep.RegionHeld3
namespace Go.Proofs.Ythhfkcmoncgknaa
open Go.RowKit

theorem ints_newsC {w : World} {X : Addr} {L : List Int} (h : IntsAt w (some X) .i64 L) (j : Nat) (u : Value) (hu : (iVals .i64 L)[j]? = some u) : w.cell? (X.add j) = some u := by
  have hj : j < L.length := by
    have := (List.getElem?_eq_some_iff.1 hu).1
    simpa [iVals] using this
  obtain ⟨a, ea, q⟩ := h j hj
  obtain rfl := Option.some.inj ea
  rw [q, ← hu, iVals_get hj]
theorem some_c (A : Addr) (n c : Nat) (w : World) : (binOp BinOp.eql 22 (.slice (some A) n c) (.slice none 0 0)).run Try.prog w = .ok (.bool false) w := by kernel_rfl
theorem ints_oneC (L : List Int) : ∀ u ∈ iVals .i64 L, u.oneCell' = true := fun u hu => by
  unfold iVals at hu
  obtain ⟨x, _, rfl⟩ := List.mem_map.1 hu
  rfl
set_option maxRecDepth 100000 in
set_option maxHeartbeats 8000000 in
theorem clone_ints (A : Addr) (c : Nat) (l : List Int) (w : World) (hA : IntsAt w (some A) .i64 l) (hl0 : 0 < l.length) (hl : l.length ≤ 1048576) : Calls Try.prog 23 #[.slice (some A) l.length c] w fun e w' => ∃ g N : Nat, e = .returned (.slice (some ⟨g, 0, none⟩) l.length N) ∧ w.heap.size ≤ g ∧ RwL w' g N l.length (nth l) ∧ N ≤ maxLen ∧ Below w.heap.size w w' := by
  obtain ⟨iI, hi, hz0, hz1, hz2⟩ := infoR3
  have HA : Hid (IntsAt (w.alloc (.cells #[] 3)) (some A) .i64 l) := hA.keep (lb_alloc (Below.refl _ _) _)
  have HB : Hid (Below w.heap.size w (w.alloc (.cells #[] 3))) := lb_alloc (Below.refl _ _) _
  have HO : Hid ((w.alloc (.cells #[] 3)).ownsRow w.heap.size 3 1 (.slice (some ⟨w.heap.size, 0, none⟩) 0 0) 0 []) := ⟨rfl, .inr ⟨w.heap.size, 0, _, rfl, Nat.le_refl _, heap_alloc_new _ _, Nat.le_refl _, by unfold maxLen; omega, rfl, rfl⟩⟩
  have hne := some_c A l.length c
  go_enter Try.func23, Try.ntmps23
  go_wp2_with (at_builtin; go_loud (refine wpList_append_own _ rfl (.tmp 5) (.tmp 6) 22 rfl w.heap.size 3 iI (.int .i64 0) 1 8 Try.underlying22 hi hz0 hz1 hz2 rfl (by decide) (.slice (some ⟨w.heap.size, 0, none⟩) 0 0) 0 [] rfl HO.out A l.length c (iVals .i64 l) rfl (by simp [iVals]) (fun j u hu => ints_newsC HA.out j u hu) (ints_oneC _) (by unfold maxLen; omega) (by omega) HB.out.size ?_; intro v3 w6 hown hgrow _; have HB6 : Hid (Below w.heap.size w w6) := HB.out.grown hgrow HB.out.size (fun b hb => (HO.out.lt b hb).1); have HR6 : Hid (w6.ownsRow w.heap.size 3 1 v3 (0 + l.length) ([] ++ iVals .i64 l)) := hown; clear hown hgrow))
  have h6 := HR6.out
  rw [Nat.zero_add, List.nil_append] at h6
  rcases h6.2 with ⟨_, e⟩ | ⟨g, cap, cur, e, b1, b2, b3, b4, b5, b6⟩
  · omega
  · subst e
    go_wp2
    go_ret
    refine ⟨g, cap, rfl, b1, ⟨cur, b2, by omega, b3, fun i hi => ?_⟩, b4, HB6.out⟩
    rw [Nat.mul_one] at b6
    have h7 : (cur.toList.take l.length)[i]? = some (.int .i64 (nth l i)) := by rw [b6, iVals_get hi]
    rw [List.getElem?_take, if_pos hi] at h7
    simpa using h7

end Go.Proofs.Ythhfkcmoncgknaa
