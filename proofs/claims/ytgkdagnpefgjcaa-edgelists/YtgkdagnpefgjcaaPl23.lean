/-
  What the flow of an image is; no Go in sight. Contracts of the library, laid at this program. slices.Clone and rising of package edge, by what they answer; at most 1048576 numbers.
-/
import Derived.Test.YtgkdagnpefgjcaaProg
import Derived.WalkKit
import Derived.WalkSpells
import Derived.WalkLawsBesides
import Derived.RowKit3
import Derived.Below
import Derived.Deep.QuietTactic
import Derived.BigQuiet
import Derived.WalkSmall
import Derived.Laws.Rows
import Derived.Test.YtgkdagnpefgjcaaPl22
import Derived.Test.YtgkdagnpefgjcaaPl12
import Derived.Test.YtgkdagnpefgjcaaPl14
import Derived.Test.YtgkdagnpefgjcaaPl13
import Derived.Test.YtgkdagnpefgjcaaPl11
import Derived.Shelf.Sort.Plain
import Derived.Shelf.Slices.Clone
import Derived.Shelf.Slices.CompactI
import Derived.Shelf.Slices.In.SortNone
import Derived.Test.YtgkdagnpefgjcaaPl10
import Derived.Lib.OwnBridge
import Derived.Sort.OwnSortedInts
namespace Go.Proofs.Ytgkdagnpefgjcaa
open Go.RowKit

theorem zisT_of {v : Int} (h : dOp v = 15 ∨ dOp v = 16 ∨ dOp v = 17 ∨ dOp v = 20) : isT v = true ∧ tgV v = dN v := by
  have : isT v = true := by
    unfold isT hP
    rw [Bool.and_eq_true, decide_eq_true_eq, decide_eq_true_eq]
    omega
  exact ⟨this, by unfold tgV; rw [if_pos this]⟩
theorem zlab_place {text : List Int} {ml : Nat} {ent : Int} (hM : MayI text ml ent) {i : Nat} (hi : i < text.length) (h : dOp (nth text i) = 15 ∨ dOp (nth text i) = 16 ∨ dOp (nth text i) = 17 ∨ dOp (nth text i) = 20) : dN (nth text i) ∈ plcT (begF text ent) text.length := by
  obtain ⟨h1, h2⟩ := zisT_of h
  have h3 := tg_pos h1
  have h4 := far_in (hM.far i hi) h1
  rw [h2] at h3 h4
  refine plcT_mem.2 ⟨h3.1, h4, beg_lab (lab_iff.2 (.inr (anyF_iff.2 ⟨i, hi, ?_⟩)))⟩
  rw [gLab_yes h1, h2]
theorem zkn_place {text : List Int} {ml : Nat} {ent : Int} (hM : MayI text ml ent) {x : Int} (h : (takF text x || sitF text x) = true) : x ∈ plcT (begF text ent) text.length := by
  rw [Bool.or_eq_true] at h
  rcases h with h | h
  · have h' : anyF (gTak text) text.length x = true := by simpa [takF, addK, noF] using h
    obtain ⟨i, hi, e⟩ := anyF_iff.1 h'
    unfold gTak at e
    split at e
    · rename_i h20
      have h20 : dOp (nth text i) = 20 := by simpa using h20
      obtain rfl := Option.some.inj e
      exact zlab_place hM hi (by omega)
    · cases e
  · have h' : anyF (gSit text) text.length x = true := by simpa [sitF, addK, noF] using h
    obtain ⟨i, hi, e⟩ := anyF_iff.1 h'
    unfold gSit at e
    split at e
    · rename_i h17
      obtain rfl := Option.some.inj e
      have := sit_in hM hi h17
      exact sit_beg (plcT_mem.2 ⟨by omega, by omega, h⟩)
    · cases e
/-- Which numbers tell the blocks by their beginnings. -/
def NumF (text : List Int) (ent : Int) (k : Nat) (F : Int → Int) : Prop := ∀ j : Nat, j < k → F (rAt (blkL text ent) j) = (j : Int)
theorem blk_place {text : List Int} {ent x : Int} {F : Int → Int} (hF : NumF text ent (blkL text ent).length F) (hx : x ∈ plcT (begF text ent) text.length) : ∃ k : Nat, k < (blkL text ent).length ∧ rAt (blkL text ent) k = x ∧ F x = (k : Int) := by
  obtain ⟨k, hk, _, e⟩ := blk_begin (f := begF text ent) (n := text.length) hx
  have e : rAt (blkL text ent) k = x := e
  exact ⟨k, hk, e, by rw [← e]; exact hF k hk⟩
theorem rAt_rise {text : List Int} {ent : Int} {i j : Nat} (hij : i < j) (hj : j < (blkL text ent).length) : rAt (blkL text ent) i < rAt (blkL text ent) j := by
  have hj2 : j < (plcT (begF text ent) text.length).length := by rw [← blkN_len]; exact hj
  have h1 := blk_from (f := begF text ent) (n := text.length) (k := i) (by omega)
  have h2 := blk_from (f := begF text ent) (n := text.length) hj2
  have e : blkN (begF text ent) text.length = blkL text ent := rfl
  rw [e] at h1 h2
  rw [h1, h2]
  exact plc_rise hij hj2
theorem NumF.more {text : List Int} {ent : Int} {k : Nat} {F : Int → Int} (h : NumF text ent k F) (hk : k < (blkL text ent).length) : NumF text ent (k + 1) (fun y => if y = rAt (blkL text ent) k then (k : Int) else F y) := fun j hj => by
  by_cases e : j = k
  · subst e
    show (if _ then _ else _) = _
    rw [if_pos rfl]
  · have := rAt_rise (text := text) (ent := ent) (show j < k by omega) hk
    show (if _ then _ else _) = _
    rw [if_neg (by omega)]
    exact h j (by omega)
def knK (text : List Int) (ent : Int) (y : Int) : Bool := takF text (rAt (blkL text ent) y.toNat) || sitF text (rAt (blkL text ent) y.toNat)
/-- The blocks at whose beginnings a leap can end. -/
theorem known_plc {text : List Int} {ml : Nat} {ent : Int} (hM : MayI text ml ent) {F : Int → Int} (hF : NumF text ent (blkL text ent).length F) : risZ ((plcT (takF text) text.length ++ plcT (sitF text) text.length).map F) = plcT (knK text ent) (blkL text ent).length := by
  refine ris_plc fun y => ?_
  rw [List.mem_map]
  constructor
  · rintro ⟨p, hp, rfl⟩
    have hk : (takF text p || sitF text p) = true := by
      rw [List.mem_append] at hp
      rw [Bool.or_eq_true]
      rcases hp with hp | hp
      · exact .inl (plcT_mem.1 hp).2.2
      · exact .inr (plcT_mem.1 hp).2.2
    obtain ⟨k, hk1, e1, e2⟩ := blk_place hF (zkn_place hM hk)
    rw [e2]
    refine ⟨by omega, by omega, ?_⟩
    unfold knK
    rw [show ((k : Int)).toNat = k by omega, e1]
    exact hk
  · rintro ⟨h0, h1, h2⟩
    have hk : y.toNat < (blkL text ent).length := by omega
    have hin := blk_in hk
    refine ⟨rAt (blkL text ent) y.toNat, ?_, ?_⟩
    · unfold knK at h2
      rw [Bool.or_eq_true] at h2
      rw [List.mem_append]
      rcases h2 with h2 | h2
      · exact .inl (plcT_mem.2 ⟨hin.1, by omega, h2⟩)
      · exact .inr (plcT_mem.2 ⟨hin.1, by omega, h2⟩)
    · rw [hF _ hk]; omega
section
variable {text : List Int} {ml : Nat} {ent : Int} {k : Nat}
theorem last_at (hk : k < (blkL text ent).length) : ∃ p : Nat, p < text.length ∧ rSym (blkL text ent) k = (p : Int) + 1 ∧ lastW text ent k = nth text p := by
  have hin := blk_in hk
  refine ⟨(rSym (blkL text ent) k - 1).toNat, by omega, by omega, rfl⟩
theorem zblk_after {p : Nat} (hb : k < (blkL text ent).length) (e : rSym (blkL text ent) k = (p : Int) + 1) (hp : p + 1 < text.length) : k + 1 < (blkL text ent).length ∧ rAt (blkL text ent) (k + 1) = (p : Int) + 1 := by
  have hb' : k < (plcT (begF text ent) text.length).length := by rw [← blkN_len]; exact hb
  by_cases h4 : k + 1 < (plcT (begF text ent) text.length).length
  · have h5 := blk_next (f := begF text ent) (n := text.length) h4
    exact ⟨by show k + 1 < (blkN (begF text ent) text.length).length; rw [blkN_len]; exact h4, by rw [← e]; exact h5.symm⟩
  · have h5 : rSym (blkL text ent) k = (text.length : Int) := blk_last (f := begF text ent) (n := text.length) (k := k) (by omega)
    omega
theorem znot_last {p : Nat} (hM : MayI text ml ent) (hp : p < text.length) (h : ¬ (dOp (nth text p) = 0 ∨ dOp (nth text p) = 15 ∨ dOp (nth text p) = 19 ∨ dOp (nth text p) = 21)) : p + 1 < text.length := by
  by_cases e : p + 1 = text.length
  · have hl := hM.last
    rw [show text.length - 1 = p by omega] at hl
    unfold lastOK at hl
    rw [decide_eq_true_eq] at hl
    exact absurd hl h
  · omega
theorem next_blk (hM : MayI text ml ent) (hk : k < (blkL text ent).length) (h : ¬ (dOp (lastW text ent k) = 0 ∨ dOp (lastW text ent k) = 15 ∨ dOp (lastW text ent k) = 19 ∨ dOp (lastW text ent k) = 21)) : k + 1 < (blkL text ent).length := by
  obtain ⟨p, hp, e, el⟩ := last_at hk
  rw [el] at h
  exact (zblk_after hk e (znot_last hM hp h)).1
theorem edg_at (hk : k < (blkL text ent).length) : rowZ (edgT text ent (blkL text ent).length) k = plcT (edgR text ent k) (blkL text ent).length := edg_row hk
theorem from_known (hk : k < (blkL text ent).length) (h : dOp (lastW text ent k) = 18 ∨ dOp (lastW text ent k) = 19) : rowZ (edgT text ent (blkL text ent).length) k = plcT (knK text ent) (blkL text ent).length := by
  rw [edg_at hk]
  refine plcT_fit fun i _ => ?_
  unfold edgR edgB knK goesF
  rw [if_neg (by omega), if_neg (by omega), if_neg (by omega), if_pos h]
theorem from_none (hk : k < (blkL text ent).length) (h : dOp (lastW text ent k) = -1 ∨ dOp (lastW text ent k) = 0 ∨ dOp (lastW text ent k) = 21) : rowZ (edgT text ent (blkL text ent).length) k = [] := by
  rw [edg_at hk]
  symm
  refine plc_uniq (by simp) fun y => ?_
  constructor
  · intro hy; simp at hy
  · rintro ⟨_, _, h2⟩
    unfold edgR edgB goesF at h2
    rw [if_pos h] at h2
    cases h2
theorem from_jump (hM : MayI text ml ent) {F : Int → Int} (hF : NumF text ent (blkL text ent).length F) (hk : k < (blkL text ent).length) (h : dOp (lastW text ent k) = 15 ∨ dOp (lastW text ent k) = 17) : rowZ (edgT text ent (blkL text ent).length) k = [F (dN (lastW text ent k))] := by
  obtain ⟨p, hp, e, el⟩ := last_at hk
  have hl := zlab_place hM hp (by rw [← el]; omega)
  rw [← el] at hl
  obtain ⟨j, hj, e1, e2⟩ := blk_place hF hl
  rw [edg_at hk]
  symm
  refine plc_uniq (by simp) fun y => ?_
  rw [List.mem_singleton, e2]
  have hg : edgR text ent k y = (dN (lastW text ent k) == rAt (blkL text ent) y.toNat) := by
    unfold edgR edgB goesF
    rw [if_neg (by omega), if_pos h]
  rw [hg, beq_iff_eq]
  constructor
  · rintro rfl
    refine ⟨by omega, by omega, ?_⟩
    rw [show ((j : Int)).toNat = j by omega]; exact e1.symm
  · rintro ⟨h0, h1, h2⟩
    have := hF y.toNat (by omega)
    rw [← h2, e2] at this
    omega
theorem from_zero (hM : MayI text ml ent) {F : Int → Int} (hF : NumF text ent (blkL text ent).length F) (hk : k < (blkL text ent).length) (h : dOp (lastW text ent k) = 16) : rowZ (edgT text ent (blkL text ent).length) k = risZ [F (dN (lastW text ent k)), (k : Int) + 1] := by
  obtain ⟨p, hp, e, el⟩ := last_at hk
  have hl := zlab_place hM hp (by rw [← el]; omega)
  rw [← el] at hl
  obtain ⟨j, hj, e1, e2⟩ := blk_place hF hl
  have hnx := next_blk hM hk (by omega)
  rw [edg_at hk]
  symm
  refine ris_plc fun y => ?_
  rw [List.mem_cons, List.mem_singleton, e2]
  have hg : edgR text ent k y = ((dN (lastW text ent k) == rAt (blkL text ent) y.toNat) || (((y.toNat : Nat) : Int) == (k : Int) + 1)) := by
    unfold edgR edgB goesF
    rw [if_neg (by omega), if_neg (by omega), if_pos h]
  rw [hg, Bool.or_eq_true, beq_iff_eq, beq_iff_eq]
  constructor
  · rintro (rfl | rfl)
    · refine ⟨by omega, by omega, .inl ?_⟩
      rw [show ((j : Int)).toNat = j by omega]; exact e1.symm
    · exact ⟨by omega, by omega, .inr (by omega)⟩
  · rintro ⟨h0, h1, h2 | h2⟩
    · have := hF y.toNat (by omega)
      rw [← h2, e2] at this
      exact .inl (by omega)
    · exact .inr (by omega)
theorem from_next (hM : MayI text ml ent) (hk : k < (blkL text ent).length) (h : ¬ (dOp (lastW text ent k) = -1 ∨ dOp (lastW text ent k) = 0 ∨ dOp (lastW text ent k) = 21 ∨ dOp (lastW text ent k) = 15 ∨ dOp (lastW text ent k) = 17 ∨ dOp (lastW text ent k) = 16 ∨ dOp (lastW text ent k) = 18 ∨ dOp (lastW text ent k) = 19)) : rowZ (edgT text ent (blkL text ent).length) k = [(k : Int) + 1] := by
  have hnx := next_blk hM hk (by omega)
  rw [edg_at hk]
  symm
  refine plc_uniq (by simp) fun y => ?_
  rw [List.mem_singleton]
  have hg : edgR text ent k y = (((y.toNat : Nat) : Int) == (k : Int) + 1) := by
    unfold edgR edgB goesF
    rw [if_neg (by omega), if_neg (by omega), if_neg (by omega), if_neg (by omega)]
  rw [hg, beq_iff_eq]
  constructor
  · rintro rfl
    exact ⟨by omega, by omega, by omega⟩
  · rintro ⟨h0, h1, h2⟩
    omega
theorem jump_in (hM : MayI text ml ent) (hk : k < (blkL text ent).length) (h : dOp (lastW text ent k) = 15 ∨ dOp (lastW text ent k) = 16 ∨ dOp (lastW text ent k) = 17) : 0 ≤ dN (lastW text ent k) ∧ dN (lastW text ent k) < (text.length : Int) := by
  obtain ⟨p, hp, e, el⟩ := last_at hk
  have hl := zlab_place hM hp (by rw [← el]; omega)
  rw [← el] at hl
  exact ⟨(plcT_mem.1 hl).1, (plcT_mem.1 hl).2.1⟩
end
/-- The cells of an instruction. -/
def insC (v : Int) : List Value := [.int .i8 (dOp v), .int .i8 (dD v), .int .i8 (dA v), .int .i8 (dB v), .int .i64 (dN v)]
def lstV : List Int → List Value
  | [] => []
  | v :: l => insC v ++ lstV l
theorem lstV_snoc : ∀ (l : List Int) (v : Int), lstV (l ++ [v]) = lstV l ++ insC v
  | [], v => by simp [lstV]
  | x :: l, v => by rw [List.cons_append, lstV, lstV, lstV_snoc l v, List.append_assoc]
theorem lstV_len : ∀ l : List Int, (lstV l).length = l.length * 5
  | [] => rfl
  | x :: l => by rw [lstV, List.length_append, lstV_len l, List.length_cons]; simp [insC]; omega
theorem lstV_get : ∀ {l : List Int} {i j : Nat}, i < l.length → j < 5 → (lstV l)[i * 5 + j]? = (insC (nth l i))[j]?
  | [], i, j, h, _ => absurd h (Nat.not_lt_zero _)
  | x :: l, 0, j, _, hj => by
    rw [lstV, List.getElem?_append_left (by simp [insC]; omega)]
    simp [nth]
  | x :: l, i + 1, j, h, hj => by
    rw [lstV, List.getElem?_append_right (by simp [insC]; omega), show (i + 1) * 5 + j - (insC x).length = i * 5 + j by simp [insC]; omega, lstV_get (l := l) (by simpa using h) hj]
    simp [nth]
theorem insC_one (v : Int) : ∀ u ∈ insC v, u.oneCell' = true := fun u hu => by
  simp only [insC, List.mem_cons, List.not_mem_nil, or_false] at hu
  rcases hu with rfl | rfl | rfl | rfl | rfl <;> rfl
/-- The last words of the first k blocks. -/
def lastL (text : List Int) (ent : Int) (k : Nat) : List Int := (List.range k).map (lastW text ent)
theorem lastL_len (text : List Int) (ent : Int) (k : Nat) : (lastL text ent k).length = k := by simp [lastL]
theorem lastL_succ (text : List Int) (ent : Int) (k : Nat) : lastL text ent (k + 1) = lastL text ent k ++ [lastW text ent k] := by simp [lastL, List.range_succ]
theorem lastL_nth {text : List Int} {ent : Int} {k i : Nat} (h : i < k) : nth (lastL text ent k) i = lastW text ent i := by simp [nth, lastL, List.getD, h]

end Go.Proofs.Ytgkdagnpefgjcaa

namespace Go.Proofs
open Go.Shelf
def Try.layC_ren : Go.Shelf.Ren := ⟨fun | 15 => 21 | n => n, fun | 22 => 43 | 3 => 3 | 4 => 4 | n => n, fun | n => n⟩
theorem Try.layC : Go.Proofs.Lays2.n15 Try.prog Try.layC_ren := {
  mixed := by kernel_rfl
  f15 := Try.func21.trans (congrArg some (by kernel_rfl))
  t3 := Try.underlying3
  a3 := Try.isAgg3
  z3 := Try.sizeOf3
  v3 := Try.zeroValue3
  t4 := Try.underlying4
  a4 := Try.isAgg4
  z4 := Try.sizeOf4
  v4 := Try.zeroValue4
  t22 := Try.underlying43
  a22 := Try.isAgg43
  z22 := Try.sizeOf43
  v22 := Try.zeroValue43
  i3 := by kernel_rfl
}
def Try.layS_ren : Go.Shelf.Ren := ⟨fun | 189 => 52 | 125 => 62 | 257 => 61 | 128 => 77 | 129 => 78 | 294 => 68 | 295 => 69 | 296 => 70 | 297 => 71 | 298 => 72 | 299 => 73 | 216 => 74 | 300 => 75 | 301 => 76 | 328 => 81 | 329 => 82 | 330 => 83 | 331 => 84 | 332 => 85 | 215 => 86 | 343 => 87 | n => n, fun | 28 => 43 | 3 => 3 | 46 => 75 | 0 => 0 | 51 => 46 | 53 => 118 | 4 => 4 | 183 => 110 | 182 => 109 | 131 => 47 | 5 => 5 | 9 => 9 | 218 => 122 | 222 => 126 | 228 => 128 | 229 => 129 | n => n, fun | n => n⟩
theorem Try.layS : Go.Proofs.Lays.n189 Try.prog Try.layS_ren := {
  mixed := by kernel_rfl
  f125 := Try.func62.trans (congrArg some (by kernel_rfl))
  f128 := Try.func77.trans (congrArg some (by kernel_rfl))
  f129 := Try.func78.trans (congrArg some (by kernel_rfl))
  f189 := Try.func52.trans (congrArg some (by kernel_rfl))
  f215 := Try.func86.trans (congrArg some (by kernel_rfl))
  f216 := Try.func74.trans (congrArg some (by kernel_rfl))
  f257 := Try.func61.trans (congrArg some (by kernel_rfl))
  f294 := Try.func68.trans (congrArg some (by kernel_rfl))
  f295 := Try.func69.trans (congrArg some (by kernel_rfl))
  f296 := Try.func70.trans (congrArg some (by kernel_rfl))
  f297 := Try.func71.trans (congrArg some (by kernel_rfl))
  f298 := Try.func72.trans (congrArg some (by kernel_rfl))
  f299 := Try.func73.trans (congrArg some (by kernel_rfl))
  f300 := Try.func75.trans (congrArg some (by kernel_rfl))
  f301 := Try.func76.trans (congrArg some (by kernel_rfl))
  f328 := Try.func81.trans (congrArg some (by kernel_rfl))
  f329 := Try.func82.trans (congrArg some (by kernel_rfl))
  f330 := Try.func83.trans (congrArg some (by kernel_rfl))
  f331 := Try.func84.trans (congrArg some (by kernel_rfl))
  f332 := Try.func85.trans (congrArg some (by kernel_rfl))
  f343 := Try.func87.trans (congrArg some (by kernel_rfl))
  t0 := Try.underlying0
  a0 := Try.isAgg0
  z0 := Try.sizeOf0
  v0 := Try.zeroValue0
  t3 := Try.underlying3
  a3 := Try.isAgg3
  z3 := Try.sizeOf3
  v3 := Try.zeroValue3
  t4 := Try.underlying4
  a4 := Try.isAgg4
  z4 := Try.sizeOf4
  v4 := Try.zeroValue4
  t5 := Try.underlying5
  a5 := Try.isAgg5
  z5 := Try.sizeOf5
  v5 := Try.zeroValue5
  t9 := Try.underlying9
  a9 := Try.isAgg9
  z9 := Try.sizeOf9
  v9 := Try.zeroValue9
  t28 := Try.underlying43
  a28 := Try.isAgg43
  z28 := Try.sizeOf43
  v28 := Try.zeroValue43
  t46 := Try.underlying75
  a46 := Try.isAgg75
  z46 := Try.sizeOf75
  v46 := Try.zeroValue75
  t51 := Try.underlying46
  a51 := Try.isAgg46
  z51 := Try.sizeOf46
  v51 := Try.zeroValue46
  t53 := Try.underlying118
  a53 := Try.isAgg118
  z53 := Try.sizeOf118
  v53 := Try.zeroValue118
  t131 := Try.underlying47
  a131 := Try.isAgg47
  z131 := Try.sizeOf47
  v131 := Try.zeroValue47
  t182 := Try.underlying109
  a182 := Try.isAgg109
  z182 := Try.sizeOf109
  v182 := Try.zeroValue109
  t183 := Try.underlying110
  a183 := Try.isAgg110
  z183 := Try.sizeOf110
  v183 := Try.zeroValue110
  t218 := Try.underlying122
  a218 := Try.isAgg122
  z218 := Try.sizeOf122
  v218 := Try.zeroValue122
  t222 := Try.underlying126
  a222 := Try.isAgg126
  z222 := Try.sizeOf126
  v222 := Try.zeroValue126
  t228 := Try.underlying128
  a228 := Try.isAgg128
  z228 := Try.sizeOf128
  v228 := Try.zeroValue128
  t229 := Try.underlying129
  a229 := Try.isAgg129
  z229 := Try.sizeOf129
  v229 := Try.zeroValue129
}
def Try.layK_ren : Go.Shelf.Ren := ⟨fun | 20 => 53 | n => n, fun | 22 => 43 | 3 => 3 | 4 => 4 | 0 => 0 | n => n, fun | n => n⟩
theorem Try.layK : Go.Proofs.Lays2.n20 Try.prog Try.layK_ren := {
  mixed := by kernel_rfl
  f20 := Try.func53.trans (congrArg some (by kernel_rfl))
  t0 := Try.underlying0
  a0 := Try.isAgg0
  z0 := Try.sizeOf0
  v0 := Try.zeroValue0
  t3 := Try.underlying3
  a3 := Try.isAgg3
  z3 := Try.sizeOf3
  v3 := Try.zeroValue3
  t4 := Try.underlying4
  a4 := Try.isAgg4
  z4 := Try.sizeOf4
  v4 := Try.zeroValue4
  t22 := Try.underlying43
  a22 := Try.isAgg43
  z22 := Try.sizeOf43
  v22 := Try.zeroValue43
  i3 := by kernel_rfl
}
end Go.Proofs

namespace Go.Proofs.Ytgkdagnpefgjcaa
open Go.RowKit

open Go.Sort
/-- An answer that is a list of its own memory. -/
def RowP (l : List Int) (w : World) (e : Ending) (w' : World) : Prop := ∃ (A : Option Addr) (c : Nat), e = .returned (.slice A l.length c) ∧ w'.ownsRow w.heap.size 3 1 (.slice A l.length c) l.length (iVals .i64 l) ∧ Below w.heap.size w w'
theorem clone_any (base : Nat) (A : Option Addr) (c : Nat) (l : List Int) (w : World) (h : w.ownsRow base 3 1 (.slice A l.length c) l.length (iVals .i64 l)) (hl : l.length ≤ 1048576) :
    Calls Try.prog 21 #[.slice A l.length c] w (RowP l w) := by
  have hi := row_ints h
  rcases h.2 with ⟨e, h0⟩ | ⟨g, cap, cur, e, hb, hg, hn, hm, hs, ht⟩
  · injection e with e1 e2 e3
    subst e1
    rw [h0]
    obtain rfl : l = [] := List.length_eq_zero_iff.1 h0
    refine (Any.slices_Clone_int_nil Try.layC 0 c w).mono fun e w' he => ?_
    obtain ⟨rfl, rfl⟩ := he
    exact ⟨none, 0, rfl, World.ownsRow_nil _ _ _ _, Below.refl _ _⟩
  · injection e with e1 e2 e3
    subst e1
    refine (Any.slices_Clone_int Try.layC g 0 l.length c l w (Nat.le_refl _) (by omega) (fun j hj => ?_)).mono fun e w' he => ?_
    · obtain ⟨a, ea, q⟩ := hi j hj
      obtain rfl := Option.some.inj ea
      rw [add0] at q
      rw [Nat.zero_add]
      exact q
    · obtain ⟨v, rfl, hown, _, hbl⟩ := he
      rw [List.take_of_length_le (Nat.le_refl _)] at hown
      obtain ⟨A2, c2, rfl⟩ := own_form hown
      exact ⟨A2, c2, rfl, hown, hbl⟩
/-- What the three leave. -/
theorem ris_end {w w1 : World} {g cap n nn q : Nat} {os : Array Obj} {l : List Int} (hown : w1.ownsRow w.heap.size 3 1 (.slice (some ⟨g, 0, none⟩) n cap) n (l.map (Value.int .i64))) (hbel : Below w.heap.size w w1) (hlen : l.length = n) :
    (putRow (Value.int .i64) (Sort.ahead (grow (putRow (Value.int .i64) (Sort.ahead w1 nn) g 0 (l.mergeSort fun x y => decide (x ≤ y)).toArray) os) q) g 0 (risZ l ++ List.replicate (n - (risZ l).length) 0).toArray).ownsRow w.heap.size 3 1 (.slice (some ⟨g, 0, none⟩) (risZ l).length cap) (risZ l).length (iVals .i64 (risZ l)) ∧ Below w.heap.size w (putRow (Value.int .i64) (Sort.ahead (grow (putRow (Value.int .i64) (Sort.ahead w1 nn) g 0 (l.mergeSort fun x y => decide (x ≤ y)).toArray) os) q) g 0 (risZ l ++ List.replicate (n - (risZ l).length) 0).toArray) := by
  have hl2 : (l.mergeSort fun x y => decide (x ≤ y)).length = l.length := List.length_mergeSort l
  have hle := ris_len l
  subst hlen
  rcases hown.2 with ⟨h0, _⟩ | ⟨g', cap', cur, hv, hbase, hb, h1, h2, h3, h4⟩
  · cases h0
  cases hv
  have hs := ownsRow_sortedI (n := nn) (os := os) (ts := l.mergeSort fun x y => decide (x ≤ y)) hl2 hbase hb h1 h2 h3
  have hc := Lib.ownsRow_putRow (q := q) (k := (risZ l).length) (ys := risZ l ++ List.replicate (l.length - (risZ l).length) 0) hs (by simp; omega) (by omega)
  rw [List.take_left] at hc
  exact ⟨hc, Lib.below_putRow (hbel.grown (grownBy_sortedI _) hbel.size (fun j hj => by cases hj; exact hbase)) hbase⟩
set_option maxHeartbeats 1000000 in
theorem rising_any (base : Nat) (A : Option Addr) (c : Nat) (l : List Int) (w : World) (h : w.ownsRow base 3 1 (.slice A l.length c) l.length (iVals .i64 l)) (hl : l.length ≤ 1048576) :
    Calls Try.prog 40 #[.slice A l.length c] w (RowP (risZ l) w) := by
  have C := clone_any base A c l w h hl
  clear h
  by_cases h0 : l.length = 0
  · obtain rfl : l = [] := List.length_eq_zero_iff.1 h0
    have C : Calls Try.prog 21 #[.slice A 0 c] w (RowP [] w) := C
    have HR : Hid (risZ [] = []) := by unfold Hid; exact List.length_eq_zero_iff.1 (by have := ris_len []; simpa using this)
    have hg : ∀ (p : Option Addr) (k : Nat) (wx : World), Calls Try.prog 52 #[.slice p 0 k] wx fun e w' => e = .returned (.tuple #[]) ∧ w' = wx := fun p k wx => Any.slices_Sort_int_none Try.layS p k wx
    have hc : ∀ (p : Option Addr) (k : Nat) (wx : World), Calls Try.prog 53 #[.slice p 0 k] wx fun e w' => e = .returned (.slice p 0 k) ∧ w' = wx := fun p k wx => Any.slices_Compact_int_empty Try.layK p k wx
    clear hl h0
    show Calls Try.prog 40 #[.slice A 0 c] w (RowP (risZ []) w)
    go_enter Try.func40, Try.ntmps40
    go_wp2_with (first
      | (go_at_call 21; refine C.mono ?_; rintro e w1 ⟨A1, c1, rfl, hown, hb1⟩)
      | (go_at_call 52; refine (hg _ _ _).mono ?_; rintro e w2 ⟨rfl, rfl⟩)
      | (go_at_call 53; refine (hc _ _ _).mono ?_; rintro e w3 ⟨rfl, rfl⟩))
    go_ret
    rw [HR.out]
    exact ⟨A1, c1, rfl, hown, hb1⟩
  · have hln : l ≠ [] := fun e => h0 (by rw [e]; rfl)
    have hmz : ∀ (g k : Nat) (wx : World), Sort.Holds (Value.int .i64) wx g 0 l.toArray → g < wx.heap.size → Calls Try.prog 52 #[.slice (some ⟨g, 0, none⟩) l.length k] wx fun e w' => e = .returned (.tuple #[]) ∧ ∃ n os, w' = grow (putRow (Value.int .i64) (Sort.ahead wx n) g 0 (l.mergeSort fun x y => decide (x ≤ y)).toArray) os := fun g k wx hH hgl => Any.slices_Sort_int Try.layS g 0 k l wx hH hgl (by omega)
    have hcz : ∀ (g k : Nat) (wx : World), Sort.Holds (Value.int .i64) wx g 0 (l.mergeSort fun x y => decide (x ≤ y)).toArray → l.length ≤ k → Calls Try.prog 53 #[.slice (some ⟨g, 0, none⟩) l.length k] wx fun e w' => e = .returned (.slice (some ⟨g, 0, none⟩) (risZ l).length k) ∧ ∃ q, w' = putRow (Value.int .i64) (Sort.ahead wx q) g 0 (risZ l ++ List.replicate (l.length - (risZ l).length) 0).toArray := fun g k wx hH hk => by
      have hl2 : (l.mergeSort fun x y => decide (x ≤ y)).length = l.length := List.length_mergeSort l
      have := Any.slices_Compact_int Try.layK g 0 k (l.mergeSort fun x y => decide (x ≤ y)) wx hH (by omega) (by omega)
      rw [hl2] at this
      exact this
    have HN : Hid (0 < l.length) := by unfold Hid; omega
    clear h0 hln
    go_enter Try.func40, Try.ntmps40
    go_upto_region 2 with (go_at_call 21; refine C.mono ?_; rintro e w1 ⟨A1, c1, rfl, hown, hb1⟩)
    obtain ⟨g, cap, ev, hbg, hgl, hnc, hcm, hzl, hH⟩ := Lib.holds_of_ownsRow (enc := Value.int .i64) (zs := l) hown (fun e => by injection e with _ e2 _; have := HN.out; omega)
    injection ev with e1 _ e3
    subst e1
    subst e3
    have HO : Hid (w1.ownsRow w.heap.size 3 1 (.slice (some ⟨g, 0, none⟩) l.length c1) l.length (l.map (Value.int .i64))) := hown
    have HB : Hid (Below w.heap.size w w1) := hb1
    clear hown hb1 C hbg hcm hzl
    have C2 := hmz g c1 w1 hH hgl
    clear hmz hH
    go_upto_region 3 with (go_at_call 52; refine C2.mono ?_; rintro e w2 ⟨rfl, nn, os, hw2⟩; have HW2 : Hid (w2 = grow (putRow (Value.int .i64) (Sort.ahead w1 nn) g 0 (l.mergeSort fun x y => decide (x ≤ y)).toArray) os) := hw2; clear hw2)
    have hl2 : (l.mergeSort fun x y => decide (x ≤ y)).length = l.length := List.length_mergeSort l
    have hH2 : Sort.Holds (Value.int .i64) w2 g 0 (l.mergeSort fun x y => decide (x ≤ y)).toArray := by
      rcases HO.out.2 with ⟨h0, _⟩ | ⟨g', cap', cur, hv, hbase, hb, h1, h2, h3, h4⟩
      · cases h0
      cases hv
      have hs := ownsRow_sortedI (n := nn) (os := os) (ts := l.mergeSort fun x y => decide (x ≤ y)) hl2 hbase hb h1 h2 h3
      rw [← HW2.out] at hs
      obtain ⟨g4, cap4, ev4, _, _, _, _, _, hH4⟩ := Lib.holds_of_ownsRow (enc := Value.int .i64) hs (fun e => by cases e)
      injection ev4 with e1 _ _
      injection e1 with e1
      injection e1 with e1
      subst e1
      exact hH4
    have C3 := hcz g c1 w2 hH2 hnc
    have HE2 : Hid (∀ q, (putRow (Value.int .i64) (Sort.ahead w2 q) g 0 (risZ l ++ List.replicate (l.length - (risZ l).length) 0).toArray).ownsRow w.heap.size 3 1 (.slice (some ⟨g, 0, none⟩) (risZ l).length c1) (risZ l).length (iVals .i64 (risZ l)) ∧ Below w.heap.size w (putRow (Value.int .i64) (Sort.ahead w2 q) g 0 (risZ l ++ List.replicate (l.length - (risZ l).length) 0).toArray)) := fun q => by
      rw [HW2.out]
      exact ris_end HO.out HB.out rfl
    clear hcz hH2 HW2 hl2 C2 HO HB
    go_wp2_with (go_at_call 53; go_loud (refine C3.mono ?_; rintro e w3 ⟨rfl, q, hw3⟩; have h5 := HE2.out q; rw [← hw3] at h5; clear hw3))
    go_ret
    exact ⟨_, _, rfl, h5.1, h5.2⟩

end Go.Proofs.Ytgkdagnpefgjcaa
