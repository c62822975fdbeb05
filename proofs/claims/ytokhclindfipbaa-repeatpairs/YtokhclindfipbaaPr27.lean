/-
  Blocks lie one behind the other; no Go in sight. Plain: where blocks end. A list of numbers copied by append, by the document's helpers: a list of its own; it is at most 2^20 long. A list of symbols, of relocations copied by append, by the document's helpers: a list of its own; it is at most 2^20 long. An object copied by the document's helper: each list is its own; the lists are at most 2^20 long.
-/
import Derived.Test.YtokhclindfipbaaProg
import Derived.WalkKit
import Derived.WalkSpells
import Derived.WalkLawsBesides
import Derived.RowKit3
import Derived.Below
import Derived.Deep.QuietTactic
import Derived.BigQuiet
import Derived.WalkSmall
import Derived.Laws.Rows
import Derived.Test.YtokhclindfipbaaPr26
import Derived.Test.YtokhclindfipbaaPr24
import Derived.Laws.AppendOwn
import Derived.Laws.OwnMore
import Derived.Deep.Slices
import Derived.Lib.BufferOwn
import Derived.Test.YtokhclindfipbaaPr21
namespace Go.Proofs.Ytokhclindfipbaa
open Go.RowKit

theorem nth_mem {l : List Int} {k : Nat} (h : k < l.length) : nth l k ∈ l := by
  unfold nth
  rw [List.getD_eq_getElem?_getD, List.getElem?_eq_getElem h]
  exact List.getElem_mem h
theorem mem_nth {l : List Int} {y : Int} (h : y ∈ l) : ∃ k, k < l.length ∧ nth l k = y := by
  obtain ⟨k, hk, e⟩ := List.mem_iff_getElem.1 h
  exact ⟨k, hk, by unfold nth; rw [List.getD_eq_getElem?_getD, List.getElem?_eq_getElem hk]; exact e⟩
theorem plc_rise {f : Int → Bool} {n i j : Nat} (hij : i < j) (hj : j < (plcT f n).length) : nth (plcT f n) i < nth (plcT f n) j := by
  have hp : (plcT f n).Pairwise (· < ·) := by
    unfold plcT
    rw [List.pairwise_map]
    exact (List.pairwise_lt_range.filter _).imp (fun {a b} h => by omega)
  rw [List.pairwise_iff_getElem] at hp
  have := hp i j (by omega) hj hij
  unfold nth
  rw [List.getD_eq_getElem?_getD, List.getD_eq_getElem?_getD, List.getElem?_eq_getElem hj, List.getElem?_eq_getElem (show i < (plcT f n).length by omega)]
  exact this
theorem plc_first {f : Int → Bool} {n : Nat} (hn : 0 < n) (h0 : f 0 = true) : 0 < (plcT f n).length ∧ nth (plcT f n) 0 = 0 := by
  have hm : (0 : Int) ∈ plcT f n := plcT_mem.2 ⟨by omega, by omega, h0⟩
  obtain ⟨k, hk, e⟩ := mem_nth hm
  by_cases hk0 : k = 0
  · subst hk0; exact ⟨hk, e⟩
  · have h1 := plc_rise (f := f) (n := n) (show 0 < k by omega) hk
    have h2 := plcT_mem.1 (nth_mem (show 0 < (plcT f n).length by omega))
    omega
section
variable {f : Int → Bool} {n : Nat}
def blkN (f : Int → Bool) (n : Nat) : List Rel := zipN (plcT f n) (n : Int)
theorem blkN_len : (blkN f n).length = (plcT f n).length := zipN_len _ _
theorem blk_from {k : Nat} (hk : k < (plcT f n).length) : rAt (blkN f n) k = nth (plcT f n) k := (zipN_at _ _ k hk).1
theorem blk_to {k : Nat} (hk : k < (plcT f n).length) : rSym (blkN f n) k = if k + 1 < (plcT f n).length then nth (plcT f n) (k + 1) else (n : Int) := (zipN_at _ _ k hk).2
theorem blk_wide {k : Nat} (hk : k < (plcT f n).length) : rAt (blkN f n) k < rSym (blkN f n) k := by
  rw [blk_from hk, blk_to hk]
  split
  · next h => exact plc_rise (by omega) h
  · exact (plcT_mem.1 (nth_mem hk)).2.1
theorem blk_next {k : Nat} (hk : k + 1 < (plcT f n).length) : rSym (blkN f n) k = rAt (blkN f n) (k + 1) := by
  rw [blk_from hk, blk_to (by omega), if_pos hk]
theorem blk_last {k : Nat} (hk : k + 1 = (plcT f n).length) : rSym (blkN f n) k = (n : Int) := by
  rw [blk_to (by omega), if_neg (by omega)]
theorem blk_of {k : Nat} (hk : k < (plcT f n).length) : ofB (blkN f n) (nth (plcT f n) k) = (k : Int) := by
  refine of_at (by rw [blkN_len]; exact hk) (fun j hj => ?_) ?_
  · unfold hasB
    rw [decide_eq_false_iff_not]
    intro h
    have h2 := h.2
    rw [blk_next (show j + 1 < (plcT f n).length by omega), blk_from (show j + 1 < (plcT f n).length by omega)] at h2
    by_cases e : j + 1 = k
    · rw [e] at h2; omega
    · have := plc_rise (f := f) (n := n) (show j + 1 < k by omega) hk
      omega
  · unfold hasB
    rw [decide_eq_true_eq]
    have := blk_wide hk
    rw [blk_from hk] at this ⊢
    exact ⟨Int.le_refl _, this⟩
theorem blk_begin {y : Int} (h : y ∈ plcT f n) : ∃ k : Nat, k < (blkN f n).length ∧ ofB (blkN f n) y = (k : Int) ∧ rAt (blkN f n) k = y := by
  obtain ⟨k, hk, e⟩ := mem_nth h
  subst e
  exact ⟨k, by rw [blkN_len]; exact hk, blk_of hk, blk_from hk⟩
end
/-- The end of what was gone through. -/
def covAt (l : List Rel) (k : Nat) : Int := if k = 0 then 0 else rSym l (k - 1)
theorem cov_zero (l : List Rel) : covAt l 0 = 0 := rfl
theorem cov_succ (l : List Rel) (k : Nat) : covAt l (k + 1) = rSym l k := by unfold covAt; rw [if_neg (by omega)]; rfl
theorem cov_here {f : Int → Bool} {n k : Nat} (hn : 0 < n) (h0 : f 0 = true) (hk : k < (blkN f n).length) : rAt (blkN f n) k = covAt (blkN f n) k ∧ rAt (blkN f n) k < rSym (blkN f n) k ∧ ofB (blkN f n) (rAt (blkN f n) k) = (k : Int) := by
  rw [blkN_len] at hk
  refine ⟨?_, blk_wide hk, by rw [blk_from hk]; exact blk_of hk⟩
  cases k with
  | zero => rw [blk_from hk, (plc_first hn h0).2]; rfl
  | succ k => rw [cov_succ, blk_next hk]
theorem cov_end {f : Int → Bool} {n : Nat} (hn : 0 < n) (h0 : f 0 = true) : covAt (blkN f n) (blkN f n).length = (n : Int) := by
  have hp := (plc_first hn h0).1
  obtain ⟨k, hk⟩ : ∃ k, (plcT f n).length = k + 1 := ⟨(plcT f n).length - 1, by omega⟩
  rw [blkN_len, hk, cov_succ, blk_last hk.symm]
/-- Every label, and every return site, begins a block. -/
theorem lab_beg {text : List Int} {ent y : Int} (h : y ∈ plcT (labF text ent) text.length) : y ∈ plcT (begF text ent) text.length := by
  rw [plcT_mem] at h ⊢
  exact ⟨h.1, h.2.1, beg_lab h.2.2⟩
theorem sit_beg {text : List Int} {ent y : Int} (h : y ∈ plcT (sitF text) text.length) : y ∈ plcT (begF text ent) text.length := by
  rw [plcT_mem] at h ⊢
  refine ⟨h.1, h.2.1, ?_⟩
  have h2 := h.2.2
  unfold sitF addK noF at h2
  rw [Bool.false_or, anyF_iff] at h2
  obtain ⟨i, hi, e⟩ := h2
  unfold gSit at e
  split at e
  · next h3 =>
    injection e with e
    subst e
    refine beg_end hi ?_
    unfold endsB
    rw [decide_eq_true_eq]
    simp at h3
    omega
  · cases e


end Go.Proofs.Ytokhclindfipbaa

namespace Go.Proofs.Ytokhclindfipbaa
open Go.RowKit

/-- Where blocks begin, one behind the other; behind the last one: the text's end. -/
def bdN (f : Int → Bool) (n j : Nat) : Nat := if j < (plcT f n).length then (nth (plcT f n) j).toNat else n
theorem plc_in {f : Int → Bool} {n j : Nat} (h : j < (plcT f n).length) : 0 ≤ nth (plcT f n) j ∧ nth (plcT f n) j < (n : Int) ∧ f (nth (plcT f n) j) = true := plcT_mem.1 (nth_mem h)
theorem bdN_zero {f : Int → Bool} {n : Nat} (h0 : f 0 = true) : bdN f n 0 = 0 := by
  unfold bdN
  by_cases h : 0 < (plcT f n).length
  · rw [if_pos h]
    have hn : 0 < n := by have := plcT_len f n; omega
    rw [(plc_first hn h0).2]; rfl
  · rw [if_neg h]
    by_cases hn : 0 < n
    · exact absurd (plc_first hn h0).1 h
    · omega
theorem bdN_rise {f : Int → Bool} {n j : Nat} (h : j < (plcT f n).length) : bdN f n j < bdN f n (j + 1) := by
  unfold bdN
  rw [if_pos h]
  have a := plc_in h
  by_cases h2 : j + 1 < (plcT f n).length
  · rw [if_pos h2]
    have := plc_rise (f := f) (n := n) (i := j) (j := j + 1) (by omega) h2
    omega
  · rw [if_neg h2]; omega
theorem bdN_mono (f : Int → Bool) (n j : Nat) : bdN f n j ≤ bdN f n (j + 1) := by
  by_cases h : j < (plcT f n).length
  · exact Nat.le_of_lt (bdN_rise h)
  · unfold bdN
    rw [if_neg h, if_neg (by omega)]
    exact Nat.le_refl _
theorem bdN_end (f : Int → Bool) (n : Nat) : bdN f n (plcT f n).length = n := if_neg (Nat.lt_irrefl _)
theorem bdN_le (f : Int → Bool) (n j : Nat) : bdN f n j ≤ n := by
  unfold bdN
  by_cases h : j < (plcT f n).length
  · rw [if_pos h]; have := plc_in h; omega
  · rw [if_neg h]; exact Nat.le_refl _
theorem bd_from {f : Int → Bool} {n j : Nat} (h : j < (plcT f n).length) : rAt (blkN f n) j = ((bdN f n j : Nat) : Int) := by
  rw [blk_from h]
  unfold bdN
  rw [if_pos h]
  have := plc_in h
  omega
theorem bd_to {f : Int → Bool} {n j : Nat} (h : j < (plcT f n).length) : rSym (blkN f n) j = ((bdN f n (j + 1) : Nat) : Int) := by
  rw [blk_to h]
  unfold bdN
  by_cases h2 : j + 1 < (plcT f n).length
  · rw [if_pos h2, if_pos h2]
    have := plc_in h2
    omega
  · rw [if_neg h2, if_neg h2]
/-- Where the block of a place ends. -/
def enK (f : Int → Bool) (n k : Nat) : Nat := match (List.range n).find? fun j => decide (k < j) && f (j : Int) with
  | some j => j
  | none => n
theorem enK_hit {f : Int → Bool} {n k j : Nat} (h1 : k < j) (h2 : j < n) (h3 : f (j : Int) = true) (h0 : ∀ i, k < i → i < j → f (i : Int) = false) : enK f n k = j := by
  have hf : (List.range n).find? (fun j => decide (k < j) && f (j : Int)) = some j := by
    rw [List.find?_range_eq_some]
    refine ⟨by simp [h1, h3], by simpa using h2, fun i hi => ?_⟩
    by_cases c : k < i
    · simp [h0 i c hi]
    · simp [c]
  unfold enK
  rw [hf]
theorem enK_none {f : Int → Bool} {n k : Nat} (h0 : ∀ i, k < i → i < n → f (i : Int) = false) : enK f n k = n := by
  have hf : (List.range n).find? (fun j => decide (k < j) && f (j : Int)) = none := by
    rw [List.find?_eq_none]
    intro i hi
    have hi : i < n := by simpa using hi
    by_cases c : k < i
    · simp [h0 i c hi]
    · simp [c]
  unfold enK
  rw [hf]
theorem enK_in {f : Int → Bool} {n j k : Nat} (hj : j < (plcT f n).length) (h1 : bdN f n j ≤ k) (h2 : k < bdN f n (j + 1)) : enK f n k = bdN f n (j + 1) := by
  have none : ∀ i, k < i → i < bdN f n (j + 1) → f (i : Int) = false := fun i hi1 hi2 => by
    cases e : f (i : Int) with
    | false => rfl
    | true =>
      exfalso
      have hn := bdN_le f n (j + 1)
      have hm : (i : Int) ∈ plcT f n := plcT_mem.2 ⟨by omega, by omega, e⟩
      obtain ⟨d, hd, ed⟩ := mem_nth hm
      rcases Nat.lt_or_ge j d with c | c
      · have a : bdN f n (j + 1) = (nth (plcT f n) (j + 1)).toNat := if_pos (by omega)
        by_cases c2 : d = j + 1
        · rw [c2] at ed; omega
        · have := plc_rise (f := f) (n := n) (i := j + 1) (j := d) (by omega) hd
          have := plc_in (f := f) (n := n) (j := j + 1) (by omega)
          omega
      · have a : bdN f n j = (nth (plcT f n) j).toNat := if_pos hj
        by_cases c2 : d = j
        · rw [c2] at ed; omega
        · have := plc_rise (f := f) (n := n) (i := d) (j := j) (by omega) hj
          have := plc_in hj
          omega
  by_cases c : j + 1 < (plcT f n).length
  · have a : bdN f n (j + 1) = (nth (plcT f n) (j + 1)).toNat := if_pos c
    have b := plc_in c
    refine enK_hit h2 (by omega) ?_ none
    rw [a, show (((nth (plcT f n) (j + 1)).toNat : Nat) : Int) = nth (plcT f n) (j + 1) by omega]
    exact b.2.2
  · have a : bdN f n (j + 1) = n := if_neg c
    rw [a] at none ⊢
    exact enK_none none
theorem enK_lt {f : Int → Bool} {n k : Nat} (hk : k < n) : k < enK f n k ∧ enK f n k ≤ n := by
  unfold enK
  cases h : (List.range n).find? (fun j => decide (k < j) && f (j : Int)) with
  | none => exact ⟨hk, Nat.le_refl _⟩
  | some j =>
    rw [List.find?_range_eq_some] at h
    have h1 := h.1
    simp only [Bool.and_eq_true, decide_eq_true_eq] at h1
    have h2 : j < n := by simpa using h.2.1
    exact ⟨h1.1, Nat.le_of_lt h2⟩
theorem enK_ok {f : Int → Bool} {nm : List Int} : EnP nm (enK f nm.length) := ⟨fun _ h => (enK_lt h).1, fun _ h => (enK_lt h).2⟩
/-- Each place is in a block. -/
theorem bd_of {f : Int → Bool} {n k : Nat} (h0 : f 0 = true) (hk : k < n) : ∃ j, j < (plcT f n).length ∧ bdN f n j ≤ k ∧ k < bdN f n (j + 1) := by
  have : ∀ m, m ≤ (plcT f n).length → k < bdN f n m → ∃ j, j < m ∧ bdN f n j ≤ k ∧ k < bdN f n (j + 1) := fun m => by
    induction m with
    | zero => intro _ h; rw [bdN_zero h0] at h; omega
    | succ m ih =>
      intro hm h
      by_cases c : k < bdN f n m
      · obtain ⟨j, a, b⟩ := ih (by omega) c
        exact ⟨j, by omega, b⟩
      · exact ⟨m, by omega, by omega, h⟩
  obtain ⟨j, a, b⟩ := this _ (Nat.le_refl _) (by rw [bdN_end]; exact hk)
  exact ⟨j, a, b⟩
/-- The ends as they fill: all places below a bound are done. -/
def enV (f : Int → Bool) (n p k : Nat) : Int := if k < p then ((enK f n k : Nat) : Int) else 0
theorem enV_zero (f : Int → Bool) (n k : Nat) : enV f n 0 k = 0 := if_neg (Nat.not_lt_zero _)
theorem enV_put (f : Int → Bool) (n p k : Nat) : enV f n (p + 1) k = if k = p then ((enK f n p : Nat) : Int) else enV f n p k := by
  unfold enV
  by_cases e : k = p
  · rw [if_pos e, e, if_pos (by omega)]
  · rw [if_neg e]
    by_cases c : k < p
    · rw [if_pos c, if_pos (by omega)]
    · rw [if_neg c, if_neg (by omega)]
def enL (f : Int → Bool) (n : Nat) : List Int := (List.range n).map fun k => ((enK f n k : Nat) : Int)
theorem enL_len (f : Int → Bool) (n : Nat) : (enL f n).length = n := by simp [enL]
theorem enL_nth {f : Int → Bool} {n k : Nat} (h : k < n) : nth (enL f n) k = ((enK f n k : Nat) : Int) := by simp [nth, enL, h]


end Go.Proofs.Ytokhclindfipbaa

namespace Go.Proofs.Ytokhclindfipbaa
open Go.RowKit

/-- How a copy ends: a list of its own. -/
def CopyP (el sz n : Nat) (news : List Value) (w : World) (e : Ending) (w' : World) : Prop := ∃ (O : Option Addr) (cap : Nat), e = .returned (.slice O n cap) ∧ w'.ownsRow w.heap.size el sz (.slice O n cap) n news ∧ w.grownBy w' none ∧ (O = none → cap = 0)
theorem copyP_mk {el sz n : Nat} {news : List Value} {w w' : World} {v : Value} {e : Ending} (he : e = .returned v) (h : w'.ownsRow w.heap.size el sz v n news) (hg : w.grownBy w' none) : CopyP el sz n news w e w' := by
  subst he
  rcases h.2 with ⟨rfl, rfl⟩ | ⟨g, cap, cur, rfl, _⟩
  · exact ⟨none, 0, rfl, h, hg, fun _ => rfl⟩
  · exact ⟨some ⟨g, 0, none⟩, cap, rfl, h, hg, fun e => by cases e⟩
def iNews (K : IntKind) (zs : List Int) : List Value := (List.range zs.length).map (wInt K zs)
theorem iNews_cell {w : World} {a : Addr} {K : IntKind} {zs : List Int} (hA : IntsAt w (some a) K zs) (j : Nat) (u : Value) (h : (iNews K zs)[j]? = some u) : w.cell? (a.add j) = some u := by
  have hj : j < zs.length := by
    have := (List.getElem?_eq_some_iff.1 h).1; simpa [iNews] using this
  obtain ⟨b, e, c⟩ := hA j hj
  obtain rfl := Option.some.inj e
  rw [c, ← h]
  simp [iNews, hj, wInt]
theorem iNews_one (K : IntKind) (zs : List Int) : ∀ u ∈ iNews K zs, u.oneCell' = true := by
  intro u hu
  obtain ⟨i, _, rfl⟩ := List.mem_map.1 hu
  unfold wInt; split <;> rfl
theorem copywords_any (O : Option Addr) (ca : Nat) (zs : List Int) (w : World) (hA : IntsAt w O .u32 zs) (h0 : O = none → ca = 0) (hz : zs.length ≤ 1048576) :
    Calls Try.prog 18 #[.slice O zs.length ca] w fun e w' => CopyP 48 1 zs.length (iNews .u32 zs) w e w' := by
  obtain ⟨i0, hi, hz0, hz1, hz2⟩ := info45
  cases O with
  | none =>
    obtain rfl := h0 rfl
    have hl : zs.length = 0 := by
      cases zs with
      | nil => rfl
      | cons x t => obtain ⟨a, e, _⟩ := hA 0 (by simp); cases e
    have hn : iNews .u32 zs = [] := by unfold iNews; rw [hl]; rfl
    rw [hl, hn]
    have hr := run_append_owned_none (P := Try.prog) (w := w) w.heap.size 22 22 48 i0 1 Try.underlying22 hi (.slice none 0 0) 0 [] (World.ownsRow_nil w _ _ _)
    go_enter Try.func18, Try.ntmps18
    go_wp2
    go_ret
    exact copyP_mk rfl (World.ownsRow_nil w _ _ _) (World.grownBy.refl w _)
  | some a =>
    go_enter Try.func18, Try.ntmps18
    go_wp2_with (at_builtin; refine wpList_append_own _ rfl (.tmp 4) (.tmp 5) 22 rfl w.heap.size 48 i0 (.int .u32 0) 1 4 Try.underlying22 hi hz0 hz1 hz2 rfl (by decide) (.slice none 0 0) 0 [] rfl (World.ownsRow_nil w _ _ _) a zs.length ca (iNews .u32 zs) rfl (by simp [iNews]) (iNews_cell hA) (iNews_one _ _) (by unfold maxLen; omega) (by omega) (Nat.le_refl _) ?_; intro v' w' hown hgrow hnil)
    go_ret
    exact copyP_mk rfl (by simpa using hown) hgrow
theorem copylongs_any (O : Option Addr) (ca : Nat) (zs : List Int) (w : World) (hA : IntsAt w O .i64 zs) (h0 : O = none → ca = 0) (hz : zs.length ≤ 1048576) :
    Calls Try.prog 19 #[.slice O zs.length ca] w fun e w' => CopyP 2 1 zs.length (iNews .i64 zs) w e w' := by
  obtain ⟨i0, hi, hz0, hz1, hz2⟩ := info2
  cases O with
  | none =>
    obtain rfl := h0 rfl
    have hl : zs.length = 0 := by
      cases zs with
      | nil => rfl
      | cons x t => obtain ⟨a, e, _⟩ := hA 0 (by simp); cases e
    have hn : iNews .i64 zs = [] := by unfold iNews; rw [hl]; rfl
    rw [hl, hn]
    have hr := run_append_owned_none (P := Try.prog) (w := w) w.heap.size 23 23 2 i0 1 Try.underlying23 hi (.slice none 0 0) 0 [] (World.ownsRow_nil w _ _ _)
    go_enter Try.func19, Try.ntmps19
    go_wp2
    go_ret
    exact copyP_mk rfl (World.ownsRow_nil w _ _ _) (World.grownBy.refl w _)
  | some a =>
    go_enter Try.func19, Try.ntmps19
    go_wp2_with (at_builtin; refine wpList_append_own _ rfl (.tmp 4) (.tmp 5) 23 rfl w.heap.size 2 i0 (.int .i64 0) 1 8 Try.underlying23 hi hz0 hz1 hz2 rfl (by decide) (.slice none 0 0) 0 [] rfl (World.ownsRow_nil w _ _ _) a zs.length ca (iNews .i64 zs) rfl (by simp [iNews]) (iNews_cell hA) (iNews_one _ _) (by unfold maxLen; omega) (by omega) (Nat.le_refl _) ?_; intro v' w' hown hgrow hnil)
    go_ret
    exact copyP_mk rfl (by simpa using hown) hgrow
theorem gcell {w w' : World} (hg : w.grownBy w' none) {p : Addr} {v : Value} (hc : w.cell? p = some v) : w'.cell? p = some v := hg.cell hc (by simp)
theorem gfroz {w w' : World} (hg : w.grownBy w' none) {p : Addr} {v : Value} (hc : w.cell? p = some v) (hf : w.frozen? p = false) : w'.frozen? p = false := by
  rw [World.frozen?_of_block (hg.block p.block (World.block_lt_of_cell? w p hc) (by simp))]; exact hf
theorem scell_ne {w : World} {b i j : Nat} {v u : Value} (hij : ¬ i = j) (h : w.cell? ⟨b, j, none⟩ = some u) : (w.setCell ⟨b, i, none⟩ v).cell? ⟨b, j, none⟩ = some u := by
  rw [← h]; simp [go_sem]
theorem scell_eq {w : World} {b i : Nat} {v u : Value} (h : w.cell? ⟨b, i, none⟩ = some u) : (w.setCell ⟨b, i, none⟩ v).cell? ⟨b, i, none⟩ = some v := by
  simp [go_sem, h]
theorem scell_far {w : World} {b c i j : Nat} {v u : Value} (hbc : ¬ b = c) (h : w.cell? ⟨c, j, none⟩ = some u) : (w.setCell ⟨b, i, none⟩ v).cell? ⟨c, j, none⟩ = some u := by
  rw [← h]; simp [go_sem]
theorem sfroz {w : World} {b i : Nat} {v : Value} {q : Addr} (h : w.frozen? q = false) : (w.setCell ⟨b, i, none⟩ v).frozen? q = false := by
  rw [← h]; simp [go_sem]
theorem keepN {w w' : World} {base e sz : Nat} {v : Value} {n : Nat} {xs : List Value} (h : w.ownsRow base e sz v n xs) (hg : w.grownBy w' none) : w'.ownsRow base e sz v n xs := h.kept hg (by
  by_cases c : v.ownBlock = none
  · exact Or.inl c
  · exact Or.inr c)
theorem keepS {w w' : World} {base e sz b : Nat} {v : Value} {n : Nat} {xs : List Value} (h : w.ownsRow base e sz v n xs) (hg : w.grownBy w' (some b)) (hb : b < base) : w'.ownsRow base e sz v n xs := h.kept hg (Or.inr fun c => by
  have := (h.lt b c).1; omega)
theorem ownMono {w : World} {base base' e sz : Nat} {v : Value} {n : Nat} {xs : List Value} (h : w.ownsRow base e sz v n xs) (hb : base' ≤ base) : w.ownsRow base' e sz v n xs := ⟨h.1, h.2.imp id fun ⟨g, cap, cur, a, b, c⟩ => ⟨g, cap, cur, a, Nat.le_trans hb b, c⟩⟩
theorem gset (w : World) (b i : Nat) (v : Value) : w.grownBy (w.setCell ⟨b, i, none⟩ v) (some b) := Lib.grownBy_setB (World.grownBy.refl w _) i v
theorem below_grow {w w1 w2 : World} (h : Below w.heap.size w w1) (hg : w1.grownBy w2 none) : Below w.heap.size w w2 := h.grown hg h.size (fun k e => by cases e)







end Go.Proofs.Ytokhclindfipbaa
