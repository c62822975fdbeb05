/-
  What is kept: where a place belongs among the kept ones; its neighbours.
-/
import Derived.Test.YtkdafkdogmemcaaProg
import Derived.WalkKit
import Derived.WalkSpells
import Derived.WalkLawsBesides
import Derived.RowKit3
import Derived.Below
import Derived.Deep.QuietTactic
import Derived.BigQuiet
import Derived.WalkSmall
import Derived.Laws.Rows
import Derived.Test.YtkdafkdogmemcaaPm04
import Derived.Test.YtkdafkdogmemcaaPm05
import Derived.Test.YtkdafkdogmemcaaPm03
import Derived.RangeFuncNested
import Derived.RangeFuncBound
import Derived.RangeFuncCalls
import Derived.RangeFuncLeaves
import Derived.Shelf.Abstract
import Derived.Shelf.RegionOpen
import Derived.OwnWalkIn
import Derived.TacticsInMore
import Derived.LoopNIn
import Derived.LoopIn
import Derived.Maps.AppendAt
import Derived.RangeFuncBox
namespace Go.Proofs.Ytkdafkdogmemcaa
open Go.RowKit

attribute [local go_sem] Oper.semAt_some

set_option maxRecDepth 100000 in
theorem povl_any (n a b : Int) (w : World) (ha : 0 ≤ a ∧ a ≤ 16384) (hb : 0 ≤ b ∧ b ≤ 16384) :
    Calls Try.prog 12 #[.int .i64 n, .int .i64 a, .int .i64 b] w fun e w' => e = .returned (.bool (ovD n a b)) ∧ w' = w := by
  have h1 : 0 ≤ max a b ∧ max a b ≤ 16384 := by omega
  have h2 : 0 ≤ min a b ∧ min a b ≤ 16384 := by omega
  have HD : Hid (decide (max a b - min a b < n) = ovD n a b) := rfl
  go_enter Try.func12, Try.ntmps12
  go_wp2
  go_ret
  exact ⟨retB20 HD.out, rfl⟩
/-- What is kept, in memory: the spots, and their places in their order. -/
structure KpAt (w : World) (K base : Nat) (X Y : Option Addr) (ko kq : Nat) (O : List Spt) (Q : List Int) : Prop where
  box : w.heap[K]? = some (.cells #[.slice X O.length ko, .slice Y Q.length kq] 34 (0, 0))
  spots : w.ownsRow base 27 3 (.slice X O.length ko) O.length (spNews O)
  places : w.ownsRow base 3 1 (.slice Y Q.length kq) Q.length (iVals .i64 Q)
section
variable {w : World} {K base : Nat} {X Y : Option Addr} {ko kq : Nat} {O : List Spt} {Q : List Int}
theorem KpAt.keep {w' : World} (h : KpAt w K base X Y ko kq O Q) (hb : Below w.heap.size w w') : KpAt w' K base X Y ko kq O Q :=
  ⟨(hb.block K (Array.getElem?_eq_some_iff.1 h.box).1).trans h.box, row_keep h.spots hb, row_keep h.places hb⟩
theorem KpAt.c0 (h : KpAt w K base X Y ko kq O Q) : w.cell? ⟨K, 0, none⟩ = some (.slice X O.length ko) := by rw [cell_of_row w K 0 _ _ (0, 0) h.box]; rfl
theorem KpAt.c1 (h : KpAt w K base X Y ko kq O Q) : w.cell? ⟨K, 1, none⟩ = some (.slice Y Q.length kq) := by rw [cell_of_row w K 1 _ _ (0, 0) h.box]; rfl
theorem KpAt.nth (h : KpAt w K base X Y ko kq O Q) {j : Nat} (hj : j < Q.length) : ∃ g, Y = some ⟨g, 0, none⟩ ∧ w.cell? ⟨g, j, none⟩ = some (.int .i64 (Q.getD j 0)) := by
  rcases h.places.2 with ⟨e0, h0⟩ | ⟨g, cap, cur, e0, hb, hg, hn, hm, hsz, htake⟩
  · omega
  · rw [Value.slice.injEq] at e0
    obtain ⟨rfl, -, rfl⟩ := e0
    refine ⟨g, rfl, ?_⟩
    have := h.places.cells rfl j (.int .i64 (Q.getD j 0)) (by simp [iVals, hj])
    rw [Addr.add_lit, Nat.zero_add] at this
    exact this
end
set_option maxRecDepth 100000 in
set_option maxHeartbeats 2000000 in
theorem from_any (K base : Nat) (X Y : Option Addr) (ko kq : Nat) (O : List Spt) (Q : List Int) (x : Int) (w : World) (h : KpAt w K base X Y ko kq O Q) (hs : Srt Q) (hl : Q.length ≤ 1048576) :
    Calls Try.prog 17 #[.pointer (some ⟨K, 0, none⟩), .int .i64 x] w fun e w' => e = .returned (.int .i64 ((frN Q x : Nat) : Int)) ∧ Below w.heap.size w w' := by
  have C := search_any Y kq Q x w (fun j hj => h.nth hj) hs hl
  have c1 := h.c1
  clear h hs
  go_enter Try.func17, Try.ntmps17
  go_wp2_with (go_at_call 24; refine C.mono ?_; rintro e w1 ⟨⟨b, rfl⟩, hb⟩; have HB : Hid (Below w.heap.size w w1) := hb; clear hb)
  go_ret
  exact ⟨rfl, HB.out⟩
/-- The neighbours of a place. -/
def besL (Q : List Int) (x : Int) : List Int := (if 0 < frN Q x then [Q.getD (frN Q x - 1) 0] else []) ++ (if frN Q x < Q.length then [Q.getD (frN Q x) 0] else [])
theorem besL_any (n : Int) (Q : List Int) (x : Int) : (besL Q x).any (ovD n x) = besB n Q x := by
  unfold besL besB
  rw [List.any_append]
  congr 1
  · by_cases h : 0 < frN Q x
    · rw [if_pos h, decide_eq_true h]; simp
    · rw [if_neg h, decide_eq_false h]; rfl
  · by_cases h : frN Q x < Q.length
    · rw [if_pos h, decide_eq_true h]; simp
    · rw [if_neg h, decide_eq_false h]; rfl
theorem besL_mem {Q : List Int} {x o : Int} (h : o ∈ besL Q x) : o ∈ Q := by
  unfold besL at h
  have hle := frN_le Q x
  rcases List.mem_append.1 h with h | h
  · split at h
    · rw [List.mem_singleton.1 h]; exact getD_mem (by omega)
    · cases h
  · split at h
    · rw [List.mem_singleton.1 h]; exact getD_mem (by omega)
    · cases h
set_option maxRecDepth 100000 in
set_option maxHeartbeats 8000000 in
theorem bes1_any (d : Nat) (hd : 1 ≤ d) (l0 B1 B2 K base : Nat) (X Y : Option Addr) (ko kq : Nat) (O : List Spt) (Q : List Int) (x : Int) (hs : Srt Q) (hl : Q.length ≤ 1048576) (J Jx : List Int → World → Prop)
    (hJ : ∀ T W W', J T W → Below W.heap.size W W' → J T W') (hR : ∀ T W, J T W → KpAt W K base X Y ko kq O Q ∧ W.cell? ⟨B1, 0, none⟩ = some (.pointer (some ⟨K, 0, none⟩)) ∧ W.cell? ⟨B2, 0, none⟩ = some (.int .i64 x))
    (hY : ∀ (T : List Int) (o : Int) (W : World), T ++ [o] <+: besL Q x → J T W → YieldAt Fence.wide (d - 1) Try.prog l0 #[.int .i64 o] W fun e W' => (e = .returned (.bool true) ∧ J (T ++ [o]) W') ∨ (e = .returned (.bool false) ∧ Jx (T ++ [o]) W'))
    (W : World) (h0 : J [] W) :
    CallsIn Fence.wide d Try.prog 21 #[.func (.yield l0) #[] #[], .pointer (some ⟨B1, 0, none⟩), .pointer (some ⟨B2, 0, none⟩)] W fun e W' => (∃ v, e = .returned v) ∧ (J (besL Q x) W' ∨ ∃ T, T <+: besL Q x ∧ Jx T W') := by
  have HJ : Hid (∀ T W W', J T W → Below W.heap.size W W' → J T W') := hJ
  have HR : Hid (∀ T W, J T W → KpAt W K base X Y ko kq O Q ∧ W.cell? ⟨B1, 0, none⟩ = some (.pointer (some ⟨K, 0, none⟩)) ∧ W.cell? ⟨B2, 0, none⟩ = some (.int .i64 x)) := hR
  have HY : Hid (∀ (T : List Int) (o : Int) (W : World), T ++ [o] <+: besL Q x → J T W → YieldAt Fence.wide (d - 1) Try.prog l0 #[.int .i64 o] W fun e W' => (e = .returned (.bool true) ∧ J (T ++ [o]) W') ∨ (e = .returned (.bool false) ∧ Jx (T ++ [o]) W')) := hY
  have H0 : Hid (J [] W) := h0
  obtain ⟨hk, p1, p2⟩ := hR _ _ h0
  have C := from_any K base X Y ko kq O Q x W hk hs hl
  have hle := frN_le Q x
  have HBL : Hid (besL Q x = (if 0 < frN Q x then [Q.getD (frN Q x - 1) 0] else []) ++ (if frN Q x < Q.length then [Q.getD (frN Q x) 0] else [])) := rfl
  clear hJ hR hY h0 hk hs
  obtain ⟨f, hf⟩ : ∃ f, Hid (frN Q x = f) := ⟨_, rfl⟩
  rw [hf.out] at C hle HBL
  refine callsIn_of_wp Try.func21 rfl trivial ?_ rfl
  simp only [Try.ntmps21, List.size_toArray, List.length_cons, List.length_nil, Nat.reduceAdd, Nat.reduceSub, Array.replicate_succ, Array.replicate_zero, List.push_toArray, List.append_toArray, List.nil_append, List.cons_append]
  gi_wp2_with fail
  refine ⟨trivial, (callsIn_wide.2 C).mono ?_⟩
  rintro e W1 ⟨rfl, hb⟩
  have J1 : Hid (J [] W1) := HJ.out _ _ _ H0.out hb
  obtain ⟨k1, p1', p2'⟩ := HR.out _ _ J1.out
  clear p1 p2 hb H0 C
  by_cases h0 : 0 < f
  · have h0' : (0 : Int) < (f : Int) := by omega
    have hf1 : (f : Int) - 1 = ((f - 1 : Nat) : Int) := by omega
    obtain ⟨g, eg, q⟩ := k1.nth (show f - 1 < Q.length by omega)
    subst eg
    have c1 := k1.c1
    have HP : Hid ([] ++ [Q.getD (f - 1) 0] <+: besL Q x) := by unfold Hid; rw [HBL.out, if_pos h0]; exact List.prefix_append _ _
    obtain ⟨fn, tmps, assign, body, hy, hR2⟩ := HY.out [] (Q.getD (f - 1) 0) W1 HP.out J1.out
    rw [List.nil_append] at hR2 HP
    obtain ⟨o, ho⟩ : ∃ o, Hid (Q.getD (f - 1) 0 = o) := ⟨_, rfl⟩
    rw [ho.out] at hy hR2 HP q
    have hle1 : (f : Int) - 1 < (Q.length : Int) := by omega
    have hle0 : (0 : Int) ≤ (f : Int) - 1 := by omega
    have htn : ((f : Int) - 1).toNat = f - 1 := by omega
    clear k1
    gi_wp2
    refine hR2.mono ?_
    rintro e W3 (⟨rfl, hJ3⟩ | ⟨rfl, hJx3⟩)
    · have J3 : Hid (J [o] W3) := hJ3
      obtain ⟨k3, q1, q2⟩ := HR.out _ _ J3.out
      clear hJ3 hR2 hy q c1 p1' p2'
      by_cases hlt : f < Q.length
      · have d1 := k3.c1
        have hlt' : (f : Int) < (Q.length : Int) := by omega
        have hf0 : (0 : Int) ≤ (f : Int) := by omega
        obtain ⟨g3, e3, r⟩ := k3.nth hlt
        cases e3
        have HP2 : Hid ([o] ++ [Q.getD f 0] = besL Q x) := by unfold Hid; rw [HBL.out, if_pos h0, if_pos hlt, ho.out]
        obtain ⟨fn2, tmps2, assign2, body2, hy2, hR3⟩ := HY.out [o] (Q.getD f 0) W3 (by rw [HP2.out]; exact List.prefix_rfl) J3.out
        rw [HP2.out] at hR3
        clear k3
        generalize Q.getD f 0 = o2 at *
        gi_wp2
        refine hR3.mono ?_
        rintro e W4 (⟨rfl, hJ4⟩ | ⟨rfl, hJx4⟩)
        · have J4 : Hid (J (besL Q x) W4) := hJ4
          clear hJ4 hR3 hy2
          gi_wp2
          go_end0
          exact ⟨⟨_, rfl⟩, .inl J4.out⟩
        · have J4 : Hid (Jx (besL Q x) W4) := hJx4
          clear hJx4 hR3 hy2
          gi_wp2
          go_end0
          exact ⟨⟨_, rfl⟩, .inr ⟨_, List.prefix_rfl, J4.out⟩⟩
      · have d1 := k3.c1
        have hlt' : ¬ (f : Int) < (Q.length : Int) := by omega
        have HP2 : Hid (besL Q x = [o]) := by unfold Hid; rw [HBL.out, if_pos h0, if_neg hlt, ho.out, List.append_nil]
        clear k3
        gi_wp2
        go_end0
        exact ⟨⟨_, rfl⟩, .inl (by rw [HP2.out]; exact J3.out)⟩
    · have J3 : Hid (Jx [o] W3) := hJx3
      clear hJx3 hR2 hy q c1 p1' p2'
      gi_wp2
      refine bodyPost_ret (results_none rfl _ _ _) rfl ?_
      exact ⟨⟨_, rfl⟩, .inr ⟨_, HP.out, J3.out⟩⟩
  · have h0' : ¬ (0 : Int) < (f : Int) := by omega
    by_cases hlt : f < Q.length
    · have d1 := k1.c1
      have hlt' : (f : Int) < (Q.length : Int) := by omega
      have hf0 : (0 : Int) ≤ (f : Int) := by omega
      obtain ⟨g3, e3, r⟩ := k1.nth hlt
      subst e3
      have HP2 : Hid ([] ++ [Q.getD f 0] = besL Q x) := by unfold Hid; rw [HBL.out, if_neg h0, if_pos hlt]
      obtain ⟨fn2, tmps2, assign2, body2, hy2, hR3⟩ := HY.out [] (Q.getD f 0) W1 (by rw [HP2.out]; exact List.prefix_rfl) J1.out
      rw [HP2.out] at hR3
      clear k1
      generalize Q.getD f 0 = o2 at *
      gi_wp2
      refine ⟨fun _ h => (by cases h), ?_⟩
      gi_wp2
      refine hR3.mono ?_
      rintro e W4 (⟨rfl, hJ4⟩ | ⟨rfl, hJx4⟩)
      · have J4 : Hid (J (besL Q x) W4) := hJ4
        clear hJ4 hR3 hy2
        gi_wp2
        go_end0
        exact ⟨⟨_, rfl⟩, .inl J4.out⟩
      · have J4 : Hid (Jx (besL Q x) W4) := hJx4
        clear hJx4 hR3 hy2
        gi_wp2
        go_end0
        exact ⟨⟨_, rfl⟩, .inr ⟨_, List.prefix_rfl, J4.out⟩⟩
    · have d1 := k1.c1
      have hlt' : ¬ (f : Int) < (Q.length : Int) := by omega
      have HP2 : Hid (besL Q x = []) := by unfold Hid; rw [HBL.out, if_neg h0, if_neg hlt]; rfl
      clear k1
      gi_wp2
      refine ⟨fun _ h => (by cases h), ?_⟩
      gi_wp2
      go_end0
      exact ⟨⟨_, rfl⟩, .inl (by rw [HP2.out]; exact J1.out)⟩

end Go.Proofs.Ytkdafkdogmemcaa
