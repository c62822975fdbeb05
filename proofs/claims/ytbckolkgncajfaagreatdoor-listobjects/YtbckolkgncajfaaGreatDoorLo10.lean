/-
  A line of code: its words, and how they are joined; no Go in sight. all of package list: texts, one behind the other, parted, are written into a builder.
-/
import Derived.Test.YtbckolkgncajfaaGreatDoorProg
import Derived.WalkKit
import Derived.WalkSpells
import Derived.WalkLawsBesides
import Derived.RowKit3
import Derived.Below
import Derived.Deep.QuietTactic
import Derived.BigQuiet
import Derived.WalkSmall
import Derived.Laws.Rows
import Derived.Test.YtbckolkgncajfaaGreatDoorLo07
import Derived.Test.YtbckolkgncajfaaGreatDoorLo03
import Derived.Test.YtbckolkgncajfaaGreatDoorLo02
import Derived.Test.YtbckolkgncajfaaGreatDoorLo09
namespace Go.Proofs.YtbckolkgncajfaaGreatDoor
open Go.RowKit

/-- Texts, one behind the other, parted. -/
def joinB (sep : List UInt8) : List ByteArray → List UInt8
  | [] => []
  | x :: r => x.data.toList ++ r.flatMap fun y => sep ++ y.data.toList
/-- The text at a place. -/
def pn (ps : List ByteArray) (k : Nat) : ByteArray := ps.getD k ⟨#[]⟩
theorem pn_get {ps : List ByteArray} {k : Nat} (h : k < ps.length) : ps[k] = pn ps k := by simp [pn, h]
theorem joinB_snoc (sep : List UInt8) (ps : List ByteArray) (x : ByteArray) : joinB sep (ps ++ [x]) = joinB sep ps ++ ((if ps.length = 0 then [] else sep) ++ x.data.toList) := by
  cases ps with
  | nil => simp [joinB]
  | cons y r => simp [joinB, List.flatMap_append]
theorem joinB_step (sep : List UInt8) (ps : List ByteArray) (k : Nat) (h : k < ps.length) : joinB sep (ps.take (k + 1)) = joinB sep (ps.take k) ++ ((if k = 0 then [] else sep) ++ (pn ps k).data.toList) := by
  rw [List.take_succ_eq_append_getElem h, joinB_snoc, pn_get h, List.length_take, Nat.min_eq_left (by omega)]
theorem joinB_take_le (sep : List UInt8) (ps : List ByteArray) (k : Nat) : (joinB sep (ps.take k)).length ≤ (joinB sep ps).length := by
  induction ps generalizing k with
  | nil => simp [joinB]
  | cons x r ih =>
    cases k with
    | zero => simp [joinB]
    | succ k =>
      have hh : ((r.take k).flatMap fun y => sep ++ y.data.toList).length ≤ (r.flatMap fun y => sep ++ y.data.toList).length := by
        conv => rhs; rw [← List.take_append_drop k r, List.flatMap_append, List.length_append]
        omega
      simp only [List.take_succ_cons, joinB, List.length_append]
      omega
/-- What stands on the line of a word. -/
def fieldsL (v : Int) : List ByteArray :=
  (if hD (dOp v) then [numB (dD v)] else []) ++ (if hA (dOp v) then [numB (dA v)] else []) ++ (if hB (dOp v) then [numB (dB v)] else [])
def nL (v : Int) : List ByteArray := if hN (dOp v) then [numB (dN v)] else []
def wordB : ByteArray := ⟨#[119, 111, 114, 100]⟩
def wordsL (v : Int) : List ByteArray := if isIns v then nameB (dOp v) :: (fieldsL v ++ nL v) else [wordB, numB v]
def lineL (v : Int) : List UInt8 := joinB [32] (wordsL v)
/-- Texts, each with a blank ahead. -/
def sps (l : List ByteArray) : List UInt8 := l.flatMap sp
theorem sps_app (a b : List ByteArray) : sps (a ++ b) = sps a ++ sps b := by simp [sps]
theorem join_sps (x : ByteArray) (r : List ByteArray) : joinB [32] (x :: r) = x.data.toList ++ sps r := by
  simp only [joinB, sps]
  rfl
theorem dOp_yes {v : Int} (h : isIns v = true) (h0 : 0 ≤ v) : 0 ≤ dOp v ∧ dOp v ≤ 21 := by
  unfold dOp
  rw [if_pos h]
  unfold isIns at h
  rw [Bool.and_eq_true, decide_eq_true_eq] at h
  unfold wOp at h ⊢
  exact ⟨by omega, h.1⟩
theorem d_in {v : Int} (h0 : 0 ≤ v) (h1 : v < 4294967296) : (0 ≤ dD v ∧ dD v ≤ 15) ∧ (0 ≤ dA v ∧ dA v ≤ 15) ∧ (0 ≤ dB v ∧ dB v ≤ 15) ∧ (-16384 ≤ dN v ∧ dN v ≤ 4294967295) := by
  unfold dD dA dB dN
  by_cases h : isIns v = true
  · rw [if_pos h, if_pos h, if_pos h, if_pos h]
    unfold wD wA wB wN
    refine ⟨by omega, by omega, by omega, ?_⟩
    split
    · rename_i hx
      simp only [Bool.and_eq_true, decide_eq_true_eq] at hx
      omega
    · omega
  · rw [if_neg h, if_neg h, if_neg h, if_neg h]
    omega
theorem dN_no {v : Int} (h : isIns v = false) : dN v = v := by unfold dN; rw [if_neg (by simp [h])]
theorem dOp_no {v : Int} (h : isIns v = false) : dOp v = -1 := by unfold dOp; rw [if_neg (by simp [h])]

end Go.Proofs.YtbckolkgncajfaaGreatDoor

namespace Go.Proofs.YtbckolkgncajfaaGreatDoor
open Go.RowKit

theorem own_zero {w : World} {b t n size : Nat} {v : Value} {xs : List Value} (h : w.ownsRow b t size v n xs) : w.ownsRow 0 t size v n xs := by
  rcases h.2 with ⟨rfl, h0⟩ | ⟨j, cap, cur, rfl, h1, h2⟩
  · exact ⟨h.1, .inl ⟨rfl, h0⟩⟩
  · exact ⟨h.1, .inr ⟨j, cap, cur, rfl, Nat.zero_le _, h2⟩⟩
/-- Texts in a row of their own. -/
def Strs (w : World) (v : Value) (ps : List ByteArray) : Prop := w.ownsRow 0 9 1 v ps.length (ps.map Value.string)
theorem Strs.at {w : World} {A : Option Addr} {n c : Nat} {ps : List ByteArray} (h : Strs w (.slice A n c) ps) (hn : n = ps.length) (m : Nat) (hm : m < ps.length) : ∃ a, A = some a ∧ w.cell? (a.add m) = some (.string (pn ps m)) := by
  subst hn
  obtain ⟨a, ea, hc⟩ := outer_at h m hm
  refine ⟨a, ea, ?_⟩
  rw [hc]
  simp [vn, pn, hm]
theorem Strs.form {w : World} {v : Value} {ps : List ByteArray} (h : Strs w v ps) : ∃ A c, v = .slice A ps.length c ∧ ps.length ≤ c := own_any h
theorem Strs.keep {w w1 : World} {v : Value} {ps : List ByteArray} (h : Strs w v ps) (hb : Below w.heap.size w w1) : Strs w1 v ps := own_keep h hb
theorem Strs.to {w w1 : World} {v : Value} {ps : List ByteArray} {g : Nat} {l : List UInt8} (h : Strs w v ps) (hd : Bd w g l) (k : To 5 g g w w1) : Strs w1 v ps := by
  obtain ⟨p, u, _, hg, _⟩ := hd
  exact k.row h (by decide) hg (by decide)
set_option maxHeartbeats 1000000 in
set_option maxRecDepth 100000 in
theorem all_any (g : Nat) (l : List UInt8) (sep : ByteArray) (A : Option Addr) (c : Nat) (ps : List ByteArray) (w : World) (h : Bd w g l) (hp : Strs w (.slice A ps.length c) ps) (hlen : l.length + (joinB sep.data.toList ps).length ≤ 140737488355328) (hps : ps.length ≤ 140737488355328) :
    Calls Tryz.prog 26 #[.pointer (some ⟨g, 0, none⟩), .string sep, .slice A ps.length c] w fun e w' => e = .returned (.tuple #[]) ∧ Puts g l (joinB sep.data.toList ps) w w' := by
  have HP : Hid (Strs w (.slice A ps.length c) ps) := hp
  have HD : Hid (Bd w g l) := h
  have HL : Hid (l.length + (joinB sep.data.toList ps).length ≤ 140737488355328) := hlen
  clear hp h hlen
  go_enter Tryz.func26, Tryz.ntmps26
  go_wp2
  go_loopw [10] (fun i wr => ∃ k : Nat, i = .int .i64 k ∧ k ≤ ps.length ∧ Hid (Puts g l (joinB sep.data.toList (ps.take k)) w wr)) (fun i _ => ps.length - (intOf i).toNat)
  case atStart => exact ⟨0, rfl, Nat.zero_le _, Puts.none HD.out⟩
  case round =>
    obtain ⟨k, rfl, hk, HW⟩ := hrel
    by_cases hlt : k < ps.length
    · obtain ⟨a, rfl, hc⟩ := (HP.out.to HD.out HW.out.2).at rfl k hlt
      have HE : Hid _ := joinB_step sep.data.toList ps k hlt
      have hll : (l ++ joinB sep.data.toList (ps.take k)).length + (((if k = 0 then [] else sep.data.toList) ++ (pn ps k).data.toList)).length ≤ 140737488355328 := by
        have h1 := joinB_take_le sep.data.toList ps (k + 1)
        rw [HE.out, List.length_append] at h1
        have := HL.out
        rw [List.length_append]
        omega
      by_cases h0 : k = 0
      · rw [if_pos h0, List.nil_append] at hll
        have h0' : ¬ (0 : Int) < (k : Int) := by omega
        have C := wstr_any g (l ++ joinB sep.data.toList (ps.take k)) (pn ps k) wr HW.out.1 hll
        have HZ : Hid (k = 0) := h0
        clear hll h0
        go_wp2_with fail
        refine C.mono ?_
        rintro e w1 ⟨rfl, hq⟩
        have HQ : Hid (Puts g l (joinB sep.data.toList (ps.take (k + 1))) w w1) := by
          show Puts _ _ _ _ _
          rw [HE.out, if_pos HZ.out, List.nil_append]
          exact HW.out.trans hq
        clear hq C
        go_wp2
        go_roundw
        case rel => exact ⟨k + 1, by go_num, by omega, HQ⟩
        case measure => simp [intOf]; omega
      · rw [if_neg h0] at hll
        have h0' : (0 : Int) < (k : Int) := by omega
        have C := wstr_any g (l ++ joinB sep.data.toList (ps.take k)) sep wr HW.out.1 (by simp only [List.length_append] at hll ⊢; show _ + sep.data.toList.length ≤ _; omega)
        have C2 := fun w1 (hq : Puts g (l ++ joinB sep.data.toList (ps.take k)) sep.data.toList wr w1) => wstr_any g _ (pn ps k) w1 hq.1 (by simp only [List.length_append] at hll ⊢; show _ + (pn ps k).data.toList.length ≤ _; omega)
        clear hll
        go_wp2_with fail
        refine C.mono ?_
        rintro e w1 ⟨rfl, hq⟩
        have HQ : Hid (Puts g (l ++ joinB sep.data.toList (ps.take k)) sep.data.toList wr w1) := hq
        clear hq C
        go_wp2_with fail
        refine (C2 _ HQ.out).mono ?_
        rintro e w2 ⟨rfl, hq⟩
        have HR : Hid (Puts g l (joinB sep.data.toList (ps.take (k + 1))) w w2) := by
          show Puts _ _ _ _ _
          rw [HE.out, if_neg h0]
          exact HW.out.trans (HQ.out.trans hq)
        clear hq C2
        go_wp2
        go_roundw
        case rel => exact ⟨k + 1, by go_num, by omega, HR⟩
        case measure => simp [intOf]; omega
    · obtain rfl : k = ps.length := by omega
      go_wp2
      go_end0
      have := HW.out
      rw [List.take_length] at this
      exact ⟨rfl, this⟩

end Go.Proofs.YtbckolkgncajfaaGreatDoor
