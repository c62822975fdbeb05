/-
  gather of package word returns the word whose text the string may be, for every string, and makes new memory alone; no condition.
-/
import Derived.Test.YtbdmhhejpomeiaaDoorWorks
import Derived.Test.YtbdmhhejpomeiaaDoorDec
import Derived.WalkSmall
import Derived.WalkMore
namespace Go.Proofs.YtbdmhhejpomeiaaDoor
open Go.RowKit

theorem drop_at (s : ByteArray) (k : Nat) (h : k < s.size) : s.data.toList.drop k = s[k] :: s.data.toList.drop (k + 1) := by
  have h' : k < s.data.toList.length := by simpa using h
  rw [List.drop_eq_getElem_cons h']; rfl

theorem grun_some {b : UInt8} {l : List UInt8} {V V1 : Int} {c m c1 m1 : Bool} (h : gstep V c m b = some (V1, c1, m1)) : grun (b :: l) V c m = grun l V1 c1 m1 := by
  rw [grun, h]
theorem grun_none {b : UInt8} {l : List UInt8} {V : Int} {c m : Bool} (h : gstep V c m b = none) : grun (b :: l) V c m = (V, c, m) := by
  rw [grun, h]

theorem g64 {b : UInt8} (V : Int) (c m : Bool) (h : ((b.toNat : Int) == (((⟨#[64]⟩ : ByteArray)[0]).toNat : Int)) = true) : gstep V c m b = some (V, true, m) := by
  rw [show (((⟨#[64]⟩ : ByteArray)[0]).toNat : Int) = 64 from rfl] at h
  have h1 : (b.toNat : Int) = 64 := by simpa using h
  unfold gstep; rw [if_pos (by omega)]
theorem n64 {b : UInt8} (h : ((b.toNat : Int) == (((⟨#[64]⟩ : ByteArray)[0]).toNat : Int)) = false) : ¬ b.toNat = 64 := by
  rw [show (((⟨#[64]⟩ : ByteArray)[0]).toNat : Int) = 64 from rfl] at h
  have h1 : ¬ (b.toNat : Int) = 64 := by simpa using h
  omega
theorem g45 {b : UInt8} (V : Int) (c m : Bool) (h : ¬ b.toNat = 64) (h2 : ((b.toNat : Int) == 45) = true) : gstep V c m b = some (V, c, true) := by
  have h1 : (b.toNat : Int) = 45 := by simpa using h2
  unfold gstep; rw [if_neg h, if_pos (by omega)]
theorem n45 {b : UInt8} (h : ((b.toNat : Int) == 45) = false) : ¬ b.toNat = 45 := by
  have h1 : ¬ (b.toNat : Int) = 45 := by simpa using h
  omega
theorem gdig {b : UInt8} (V : Int) (c m : Bool) (h : ¬ b.toNat = 64) (h2 : ¬ b.toNat = 45) (h3 : 48 ≤ (b.toNat : Int)) (h4 : (b.toNat : Int) ≤ 57) : gstep V c m b = some (wrap64 (wrap64 (V * 10) + ((b.toNat : Int) - 48)), c, m) := by
  unfold gstep; rw [if_neg h, if_neg h2, if_pos (by omega)]
theorem gout {b : UInt8} (V : Int) (c m : Bool) (h : ¬ b.toNat = 64) (h2 : ¬ b.toNat = 45) (h3 : (b.toNat : Int) < 48 ∨ 57 < (b.toNat : Int)) : gstep V c m b = none := by
  unfold gstep; rw [if_neg h, if_neg h2, if_neg (by omega)]

theorem end_t {l : List UInt8} {V : Int} {c : Bool} (h : grun l 0 false false = (V, c, true)) : Ending.returned (.agg #[.int .i64 (wrap64 (-V)), .bool c]) = .returned (.agg #[.int .i64 (gath l).1, .bool (gath l).2]) := by
  unfold gath; rw [h]; rfl
theorem end_f {l : List UInt8} {V : Int} {c : Bool} (h : grun l 0 false false = (V, c, false)) : Ending.returned (.agg #[.int .i64 V, .bool c]) = .returned (.agg #[.int .i64 (gath l).1, .bool (gath l).2]) := by
  unfold gath; rw [h]; rfl

set_option maxHeartbeats 1000000 in
theorem gather_any (s : ByteArray) (hs : s.size ≤ maxLen) (w : World) : Calls Tryd.prog 22 #[.string s] w fun e w' =>
    e = .returned (.agg #[.int .i64 (gath s.data.toList).1, .bool (gath s.data.toList).2]) ∧ Below w.heap.size w w' := by
  unfold maxLen at hs
  go_enter Tryd.func22, Tryd.ntmps22
  go_wp2
  go_step3
  go_wp2
  go_step3
  go_wp2
  go_loopw [3, 4] (fun m i wr => ∃ (k : Nat) (V : Int) (c mm : Bool), k ≤ s.size ∧ i = .int .i64 k ∧ m = .bool mm ∧ wr = w.alloc (.cells #[.int .i64 V, .bool c] 24) ∧ Hid (grun (s.data.toList.drop k) V c mm = grun s.data.toList 0 false false)) (fun _ i _ => s.size - (intOf i).toNat)
  case atStart => exact ⟨0, 0, false, false, Nat.zero_le _, rfl, rfl, rfl, by simp [Hid]⟩
  case round =>
    obtain ⟨k, V, c, mm, hk, rfl, rfl, rfl, HG⟩ := hrel
    by_cases hlt : k < s.size
    · have HD : Hid (s.data.toList.drop k = s[k] :: s.data.toList.drop (k + 1)) := drop_at s k hlt
      go_wp2
      · have e := g64 V c mm ‹(_ == _) = true›
        go_roundw
        case rel => exact ⟨k + 1, V, true, mm, by omega, by go_num, rfl, rfl, by have h := HG.out; rw [HD.out, grun_some e] at h; exact h⟩
        case measure => simp [intOf]; omega
      · have e := g45 V c mm (n64 ‹_›) ‹_›
        go_roundw
        case rel => exact ⟨k + 1, V, c, true, by omega, by go_num, rfl, rfl, by have h := HG.out; rw [HD.out, grun_some e] at h; exact h⟩
        case measure => simp [intOf]; omega
      · have e := gdig V c mm (n64 ‹_›) (n45 ‹_›) ‹_› ‹_›
        go_roundw
        case rel => exact ⟨k + 1, _, c, mm, by omega, by go_num, rfl, rfl, by have h := HG.out; rw [HD.out, grun_some e] at h; exact h⟩
        case measure => simp [intOf]; omega
      all_goals have e : gstep V c mm s[k] = none := gout V c mm (n64 ‹_›) (n45 ‹_›) (by first | exact Or.inl ‹_› | exact Or.inr ‹_›)
      all_goals have H0 : Hid (grun s.data.toList 0 false false = (V, c, mm)) := by have h := HG.out; rw [HD.out, grun_none e] at h; exact h.symm
      all_goals try rw [Exit.noGoto_ret]
      · have hm : mm = true := by assumption
        subst hm
        exact bodyPost_ret (v := .agg #[.int .i64 (wrap64 (-V)), .bool c]) (by simp [results, Tryd.results22, go_sem]) rfl ⟨end_t H0.out, bel_alloc (Below.refl _ _) _⟩
      · have hm : mm = false := by assumption
        subst hm
        exact bodyPost_ret (v := .agg #[.int .i64 V, .bool c]) (by simp [results, Tryd.results22, go_sem]) rfl ⟨end_f H0.out, bel_alloc (Below.refl _ _) _⟩
      · have hm : mm = true := by assumption
        subst hm
        exact bodyPost_ret (v := .agg #[.int .i64 (wrap64 (-V)), .bool c]) (by simp [results, Tryd.results22, go_sem]) rfl ⟨end_t H0.out, bel_alloc (Below.refl _ _) _⟩
      · have hm : mm = false := by assumption
        subst hm
        exact bodyPost_ret (v := .agg #[.int .i64 V, .bool c]) (by simp [results, Tryd.results22, go_sem]) rfl ⟨end_f H0.out, bel_alloc (Below.refl _ _) _⟩
    · have h0 : grun s.data.toList 0 false false = (V, c, mm) := by
        have h := HG.out
        rw [List.drop_eq_nil_of_le (by simp; omega)] at h
        exact h.symm
      have H0 : Hid (grun s.data.toList 0 false false = (V, c, mm)) := h0
      clear h0
      cases mm
      · go_wp2
        rw [Exit.noGoto_ret]
        refine bodyPost_ret (v := .agg #[.int .i64 V, .bool c]) (by simp [results, Tryd.results22, go_sem]) rfl ⟨end_f H0.out, bel_alloc (Below.refl _ _) _⟩
      · go_wp2
        rw [Exit.noGoto_ret]
        refine bodyPost_ret (v := .agg #[.int .i64 (wrap64 (-V)), .bool c]) (by simp [results, Tryd.results22, go_sem]) rfl ⟨end_t H0.out, bel_alloc (Below.refl _ _) _⟩
end Go.Proofs.YtbdmhhejpomeiaaDoor
