/-
  What linking keeps; no Go in sight. The marks behind a list of numbers, looked at by the document's helpers: true where they stand; the list is at most 2^20 long. The marks behind a list of symbols, of relocations, looked at by the document's helpers: true where they stand; the list is at most 2^20 long. The marks behind an object's lists, looked at by the document's helper: true where they stand; the lists are at most 2^20 long. An object copied into memory of its own, with marks behind its lists, by the document's helper; its lists are at most 2^20 long. Where an object that was copied with marks lies, and that the marks stand; its lists are at most 2^20 long.
-/
import Derived.Test.YthpkekpojhmaaaaGreatDoorProg
import Derived.WalkKit
import Derived.WalkSpells
import Derived.WalkLawsBesides
import Derived.RowKit3
import Derived.Below
import Derived.Deep.QuietTactic
import Derived.BigQuiet
import Derived.WalkSmall
import Derived.Laws.Rows
import Derived.Test.YthpkekpojhmaaaaGreatDoorP18
import Derived.Test.YthpkekpojhmaaaaGreatDoorP19
import Derived.Test.YthpkekpojhmaaaaGreatDoorP22
import Derived.Test.YthpkekpojhmaaaaGreatDoorP20
namespace Go.Proofs.YthpkekpojhmaaaaGreatDoor
open Go.RowKit

theorem isT_ins {v : Int} (h : isT v = true) : isIns v = true ∧ hP (dOp v) = true ∧ 0 ≤ dOp v := by
  unfold isT at h
  rw [Bool.and_eq_true, decide_eq_true_iff] at h
  refine ⟨?_, h.2, h.1⟩
  cases hi : isIns v
  · have := dOp_no hi
    omega
  · rfl
theorem zhP_hN {op : Int} (h : hP op = true) : hN op = true := by
  unfold hP at h
  unfold hN
  rw [decide_eq_true_iff] at h ⊢
  omega
theorem aim_ok {v p : Int} (hT : isT v = true) (hp : 0 ≤ p ∧ p < 16384) : aimE v p = 0 := by
  obtain ⟨hi, hP', h0⟩ := isT_ins hT
  have hd : dOp v = wOp v ∧ dD v = wD v ∧ dA v = wA v ∧ dB v = wB v := by
    unfold dOp dD dA dB
    rw [hi]
    simp
  have hi2 := hi
  unfold isIns at hi2
  rw [Bool.and_eq_true, decide_eq_true_iff] at hi2
  obtain ⟨h21, hok⟩ := hi2
  unfold insOK at hok
  simp only [Bool.and_eq_true] at hok
  obtain ⟨⟨⟨r1, r2⟩, r3⟩, -⟩ := hok
  unfold aimE
  rw [hT, decide_eq_true hp]
  simp only [if_true]
  rw [hd.1] at hP' h0
  unfold encE
  rw [hd.1, hd.2.1, hd.2.2.1, hd.2.2.2, if_neg (by omega)]
  have : insOK (wOp v) (wD v) (wA v) (wB v) p = true := by
    unfold insOK numOK
    rw [r1, r2, r3, zhP_hN hP', hP']
    simp only [if_true, Bool.true_and]
    exact decide_eq_true hp
  rw [this]
  rfl
theorem aim_is {v p : Int} (hT : isT v = true) (hp : 0 ≤ p ∧ p < 16384) : aimV v p = encV (dOp v) (dD v) (dA v) (dB v) p := by
  unfold aimV; rw [hT, decide_eq_true hp]; rfl
/-- Aimed twice is aimed once. -/
theorem aim_again {v p r : Int} (hT : isT v = true) (hp : 0 ≤ p ∧ p < 16384) (hr : 0 ≤ r ∧ r < 16384) : aimV (aimV v p) r = aimV v r := by
  have hE := aim_ok hT hp
  have hT2 := (aim_target hE).1
  have hE2 : encE (dOp v) (dD v) (dA v) (dB v) p = 0 := by
    unfold aimE at hE
    rw [hT, decide_eq_true hp] at hE
    simpa using hE
  obtain ⟨e1, e2, e3, e4, -⟩ := dec_enc hE2
  rw [aim_is hT2 hr, aim_is hT hr, aim_is hT hp, e1, e2, e3, e4]
theorem nth_left {a b : List Int} {i : Nat} (h : i < a.length) : nth (a ++ b) i = nth a i := by simp [nth, List.getD, List.getElem?_append_left h, h]
theorem nth_right {a b : List Int} {k : Nat} : nth (a ++ b) (a.length + k) = nth b k := by
  unfold nth
  rw [List.getD_eq_getElem?_getD, List.getD_eq_getElem?_getD, List.getElem?_append_right (by omega), Nat.add_sub_cancel_left]
theorem bsF_mono (l : List Ob) {i n : Nat} (h : i ≤ n) : bsF l i ≤ bsF l n := by
  induction n with
  | zero => obtain rfl : i = 0 := by omega
            exact Nat.le_refl _
  | succ n ih =>
    by_cases he : i = n + 1
    · subst he; exact Nat.le_refl _
    · have := ih (by omega)
      rw [bsF]; omega
theorem bsF_end (l : List Ob) {i n : Nat} (h : i < n) : bsF l i + (ob l i).code.length < bsF l n := by
  have := bsF_mono l (i := i + 1) (n := n) h
  rw [bsF] at this
  omega
theorem codeF_nth (l : List Ob) (i : Nat) {k n : Nat} (h : k < n) : nth (codeF l i n) k = wordF l i k := by simp [nth, List.getD, codeF, h]
theorem text_word (l : List Ob) : ∀ {n i k : Nat}, i < n → k < (ob l i).code.length → nth (textF l n) (bsF l i + k) = wordF l i k
  | 0, _, _, h, _ => by omega
  | n + 1, i, k, h, hk => by
    rw [textF]
    by_cases he : i = n
    · subst he
      rw [← textF_len l i, nth_right, nth_left (by rw [codeF_len]; exact hk), codeF_nth l i hk]
    · have := bsF_end l (i := i) (n := n) (by omega)
      rw [nth_left (by rw [textF_len]; omega)]
      exact text_word l (by omega) hk
theorem text_trap (l : List Ob) : ∀ {n i : Nat}, i < n → nth (textF l n) (bsF l i + (ob l i).code.length) = 0
  | 0, _, h => by omega
  | n + 1, i, h => by
    rw [textF]
    by_cases he : i = n
    · subst he
      have e : nth (codeF l i (ob l i).code.length ++ [0]) (ob l i).code.length = 0 := by
        have := nth_right (a := codeF l i (ob l i).code.length) (b := [0]) (k := 0)
        rw [codeF_len] at this
        exact this
      rw [← textF_len l i, nth_right, e]
    · have := bsF_end l (i := i) (n := n) (by omega)
      rw [nth_left (by rw [textF_len]; omega)]
      exact text_trap l (by omega)
/-- Each place of the text is a word's or a Trap's. -/
theorem place_of (l : List Ob) : ∀ {n j : Nat}, j < bsF l n → ∃ i k, i < n ∧ k ≤ (ob l i).code.length ∧ j = bsF l i + k
  | 0, j, h => by simp [bsF] at h
  | n + 1, j, h => by
    by_cases hj : j < bsF l n
    · obtain ⟨i, k, h1, h2, h3⟩ := place_of l hj
      exact ⟨i, k, by omega, h2, h3⟩
    · rw [bsF] at h
      exact ⟨n, j - bsF l n, by omega, by omega, by omega⟩
/-- Objects that link. -/
structure Lnk (l : List Ob) (nm : ByteArray) (mem : Int) (x : Nat × Int) : Prop where
  m0 : 0 ≤ mem
  m1 : mem ≤ 4096
  res : Res l
  found : findF nm l = some x
  near : farL l = none
  data : datE l mem.toNat = none
theorem lnk_ok {l : List Ob} {nm : ByteArray} {mem : Int} (h : lnkE l nm mem = none) : ∃ x, Lnk l nm mem x := by
  unfold lnkE at h
  split at h
  · cases h
  · rename_i hm
    split at h
    · cases h
    · rename_i hr
      cases hf : findF nm l with
      | none => rw [hf] at h; simp at h
      | some x =>
        rw [hf] at h
        simp only [Option.isSome_some, Bool.true_eq_false, if_false] at h
        split at h
        · cases h
        · rename_i hl
          exact ⟨x, by omega, by omega, res_ok hr, hf, hl, h⟩
theorem Lnk.short {l : List Ob} {nm : ByteArray} {mem : Int} {x : Nat × Int} (h : Lnk l nm mem x) : bsF l l.length ≤ 16384 := far_len h.near
theorem Lnk.lt {l : List Ob} {nm : ByteArray} {mem : Int} {x : Nat × Int} (h : Lnk l nm mem x) : x.1 < l.length ∧ 0 ≤ x.2 ∧ x.2 ≤ (ob l x.1).code.length := h.res.find h.found
theorem atR_lt {rs : List Rel} {p : Int} (h : 0 ≤ atR rs p) : (atR rs p).toNat < rs.length := by
  unfold atR at h ⊢
  have key : ∀ (l : List Rel) (k : Nat), 0 ≤ atFrom l p k → (atFrom l p k).toNat < k + l.length := by
    intro l
    induction l with
    | nil => intro k h; simp [atFrom] at h
    | cons a l ih =>
      intro k h
      unfold atFrom at h ⊢
      split
      · simp
      · rename_i hc
        rw [if_neg hc] at h
        have := ih (k + 1) h
        simp only [List.length_cons]
        omega
  have := key rs 0 h
  omega
/-- Where a target has gone lies in the text. -/
theorem Lnk.goes {l : List Ob} {nm : ByteArray} {mem : Int} {x : Nat × Int} (h : Lnk l nm mem x) {i k : Nat} (hi : i < l.length) (hk : k < (ob l i).code.length) (hT : isT (nth (ob l i).code k) = true) (hc : 0 ≤ tgV (nth (ob l i).code k)) : 0 ≤ toF l i k ∧ toF l i k < bsF l l.length := by
  have hm := h.res.may i hi
  unfold toF
  split
  · rename_i ha
    have hr := atR_lt ha
    have hs := (rel_parts.1 (hm.2.2.1 _ hr))
    obtain ⟨x1, y1, e, hx, hy0, hy1, -⟩ := h.res.stand hi (k := (rSym (ob l i).rs (atR (ob l i).rs k).toNat).toNat) (by omega)
    rw [e]
    have := bsF_end l hx
    simp only [Int.toNat_natCast]
    omega
  · have := bsF_end l hi
    have hcd := cod_parts.1 (hm.2.2.2 k hk) hT
    omega
theorem tg_pos {v : Int} (hT : isT v = true) : 0 ≤ tgV v ∧ tgV v < 16384 := by
  obtain ⟨hi, hP', h0⟩ := isT_ins hT
  have hd : dOp v = wOp v := by unfold dOp; rw [hi]; simp
  have hi2 := hi
  unfold isIns at hi2
  rw [Bool.and_eq_true] at hi2
  have hok := hi2.2
  unfold insOK numOK at hok
  rw [hd] at hP'
  simp only [Bool.and_eq_true, zhP_hN hP', hP', if_true, decide_eq_true_iff] at hok
  have e : tgV v = wN v := by unfold tgV dN; rw [hT, hi]; simp
  rw [e]
  exact hok.2
/-- A word of the text. -/
theorem Lnk.word {l : List Ob} {nm : ByteArray} {mem : Int} {x : Nat × Int} (h : Lnk l nm mem x) {i k : Nat} (hi : i < l.length) (hk : k < (ob l i).code.length) (hT : isT (nth (ob l i).code k) = true) : isT (wordF l i k) = true ∧ tgV (wordF l i k) = toF l i k ∧ aimV (wordF l i k) 0 = aimV (nth (ob l i).code k) 0 ∧ 0 ≤ toF l i k ∧ toF l i k < bsF l l.length := by
  have hg := h.goes hi hk hT (tg_pos hT).1
  have hs := h.short
  have hp : 0 ≤ toF l i k ∧ toF l i k < 16384 := by omega
  have e : wordF l i k = aimV (nth (ob l i).code k) (toF l i k) := by unfold wordF; rw [if_pos hT]
  rw [e]
  obtain ⟨a, b⟩ := aim_target (aim_ok hT hp)
  exact ⟨a, b, aim_again hT hp (by decide), hg⟩
theorem word_same {l : List Ob} {i k : Nat} (hT : isT (nth (ob l i).code k) = false) : wordF l i k = nth (ob l i).code k := by
  unfold wordF; rw [hT]; rfl
theorem isT_zero : isT 0 = false := by decide
theorem last_zero : lastOK 0 = true := by decide
/-- What was linked may be. -/
theorem Lnk.may {l : List Ob} {nm : ByteArray} {mem : Int} {x : Nat × Int} (h : Lnk l nm mem x) : MayI (textF l l.length) mem.toNat ((bsF l x.1 : Int) + x.2) := by
  obtain ⟨h1, h2, h3⟩ := h.lt
  have hb := bsF_end l h1
  have hs := h.short
  refine ⟨⟨by rw [textF_len]; omega, by rw [textF_len]; exact hs, by have := h.m1; omega, by omega, by rw [textF_len]; omega⟩, fun j hj => ?_, ?_⟩
  · rw [textF_len] at hj
    obtain ⟨i, k, hi, hk, rfl⟩ := place_of l hj
    unfold farT
    rw [textF_len]
    by_cases hk2 : k < (ob l i).code.length
    · rw [text_word l hi hk2]
      cases hT : isT (nth (ob l i).code k)
      · rw [word_same hT, hT]; rfl
      · obtain ⟨a, b, -, -, d⟩ := h.word hi hk2 hT
        rw [b, decide_eq_false (by omega), Bool.and_false]
    · obtain rfl : k = (ob l i).code.length := by omega
      rw [text_trap l hi, isT_zero]; rfl
  · have hl : l.length = (l.length - 1) + 1 := by omega
    have e : (textF l l.length).length - 1 = bsF l (l.length - 1) + (ob l (l.length - 1)).code.length := by
      rw [textF_len]
      conv => lhs; rw [hl]
      rw [bsF]; omega
    rw [e, text_trap l (by omega)]
    exact last_zero
/-- The words are words. -/
theorem text_range {l : List Ob} (hc : ∀ i, i < l.length → ∀ k, k < (ob l i).code.length → 0 ≤ nth (ob l i).code k ∧ nth (ob l i).code k < 4294967296) (j : Nat) (hj : j < (textF l l.length).length) : 0 ≤ nth (textF l l.length) j ∧ nth (textF l l.length) j < 4294967296 := by
  rw [textF_len] at hj
  obtain ⟨i, k, hi, hk, rfl⟩ := place_of l hj
  by_cases hk2 : k < (ob l i).code.length
  · rw [text_word l hi hk2]
    unfold wordF
    split
    · exact aim_range _ _
    · exact hc i hi k hk2
  · obtain rfl : k = (ob l i).code.length := by omega
    rw [text_trap l hi]
    decide
theorem Lnk.lnkT {l : List Ob} {nm : ByteArray} {mem : Int} (h : lnkE l nm mem = none) : lnkT l nm mem = textF l l.length := by unfold Go.Proofs.YthpkekpojhmaaaaGreatDoor.lnkT; rw [h]; rfl
theorem Lnk.lnkM {l : List Ob} {nm : ByteArray} {mem : Int} (h : lnkE l nm mem = none) : (lnkM l nm mem).length = mem.toNat := by unfold Go.Proofs.YthpkekpojhmaaaaGreatDoor.lnkM; rw [h]; simp [datL]
theorem Lnk.lnkN {l : List Ob} {nm : ByteArray} {mem : Int} {x : Nat × Int} (h : lnkE l nm mem = none) (hx : findF nm l = some x) : lnkN l nm mem = (bsF l x.1 : Int) + x.2 := by unfold Go.Proofs.YthpkekpojhmaaaaGreatDoor.lnkN; rw [h, hx]; rfl
theorem Lnk.basL {l : List Ob} {nm : ByteArray} {mem : Int} {x : Nat × Int} (h : Lnk l nm mem x) : basE l = 0 ∧ basL l = (List.range l.length).map fun i => (bsF l i : Int) := by
  have e : basE l = 0 := by
    unfold basE
    rw [if_neg (by have := h.res.few; omega), h.near]
    rfl
  exact ⟨e, by unfold Go.Proofs.YthpkekpojhmaaaaGreatDoor.basL; rw [if_pos e]⟩


end Go.Proofs.YthpkekpojhmaaaaGreatDoor

namespace Go.Proofs.YthpkekpojhmaaaaGreatDoor
open Go.RowKit

set_option maxRecDepth 100000 in
set_option maxHeartbeats 1000000 in
theorem sparewords_any (g n : Nat) (w : World) (hA : ∀ i, n ≤ i → i < n + 64 → w.cell? ⟨g, i, none⟩ = some (.int .u32 (9437184 + i + 1))) (hz : n ≤ 1048576) :
    Calls Tryz.prog 104 #[.slice (some ⟨g, 0, none⟩) n (n + 64)] w fun e w' => e = .returned (.bool true) ∧ w' = w := by
  go_enter Tryz.func104, Tryz.ntmps104
  go_wp2
  go_loop [4] (fun i => ∃ k : Nat, i = .int .i64 k ∧ n ≤ k ∧ k ≤ n + 64) (fun i => n + 64 - (intOf i).toNat)
  case atStart => exact ⟨n, rfl, by omega, by omega⟩
  case round =>
    obtain ⟨k, rfl, hk, hk2⟩ := hrel
    by_cases hlt : k < n + 64
    · have c := hA k hk hlt
      go_wp2_with fail
      refine (num_any 9 k (by omega) (by omega) (by omega) (by omega) _).mono ?_
      rintro e w1 ⟨rfl, rfl⟩
      go_wp2
      go_round
      case rel => exact ⟨k + 1, by go_num, by omega, by omega⟩
      case measure => simp [intOf]; omega
    · go_wp2
      go_ret
      exact ⟨rfl, rfl⟩

set_option maxRecDepth 100000 in
set_option maxHeartbeats 1000000 in
theorem sparelongs_any (g n : Nat) (w : World) (hA : ∀ i, n ≤ i → i < n + 64 → w.cell? ⟨g, i, none⟩ = some (.int .i64 (9437184 + i + 1))) (hz : n ≤ 1048576) :
    Calls Tryz.prog 105 #[.slice (some ⟨g, 0, none⟩) n (n + 64)] w fun e w' => e = .returned (.bool true) ∧ w' = w := by
  go_enter Tryz.func105, Tryz.ntmps105
  go_wp2
  go_loop [4] (fun i => ∃ k : Nat, i = .int .i64 k ∧ n ≤ k ∧ k ≤ n + 64) (fun i => n + 64 - (intOf i).toNat)
  case atStart => exact ⟨n, rfl, by omega, by omega⟩
  case round =>
    obtain ⟨k, rfl, hk, hk2⟩ := hrel
    by_cases hlt : k < n + 64
    · have c := hA k hk hlt
      go_wp2_with fail
      refine (num_any 9 k (by omega) (by omega) (by omega) (by omega) _).mono ?_
      rintro e w1 ⟨rfl, rfl⟩
      go_wp2
      go_round
      case rel => exact ⟨k + 1, by go_num, by omega, by omega⟩
      case measure => simp [intOf]; omega
    · go_wp2
      go_ret
      exact ⟨rfl, rfl⟩
set_option maxRecDepth 100000 in
set_option maxHeartbeats 1000000 in
theorem sparerel_any (g n : Nat) (w : World) (hA : ∀ i, n ≤ i → i < n + 64 → w.cell? ⟨g, i * 2, none⟩ = some (.int .i64 (9437184 + i + 1)) ∧ w.cell? ⟨g, i * 2 + 1, none⟩ = some (.int .i64 0)) (hz : n ≤ 1048576) :
    Calls Tryz.prog 107 #[.slice (some ⟨g, 0, none⟩) n (n + 64)] w fun e w' => e = .returned (.bool true) ∧ Below w.heap.size w w' := by
  go_enter Tryz.func107, Tryz.ntmps107
  go_wp2
  go_loopw [4] (fun i wr => ∃ k : Nat, i = .int .i64 k ∧ n ≤ k ∧ k ≤ n + 64 ∧ Below w.heap.size w wr) (fun i _ => n + 64 - (intOf i).toNat)
  case atStart => exact ⟨n, rfl, by omega, by omega, Below.refl _ _⟩
  case round =>
    obtain ⟨k, rfl, hk, hk2, hB⟩ := hrel
    rename_i wr _
    by_cases hlt : k < n + 64
    · obtain ⟨c0, c1⟩ := hA k hk hlt
      replace c0 := lkeep hB c0
      replace c1 := lkeep hB c1
      have HB : Hid (Below w.heap.size w _) := hB
      clear hB
      go_wp2_with fail
      go_quiet ((go_at_call 36; exact Calls.quiet_of_same (num_any _ _ (by omega) (by omega) (by omega) (by omega) _)))
      go_wp2
      go_roundw
      case rel => exact ⟨k + 1, by go_num, by omega, by omega, below_drewN (lb_alloc HB.out _) _⟩
      case measure => simp [intOf]; omega
    · go_wp2
      go_ret
      exact ⟨rfl, hB⟩

set_option maxRecDepth 100000 in
set_option maxHeartbeats 1000000 in
theorem sparesym_any (g n : Nat) (w : World) (hA : ∀ i, n ≤ i → i < n + 64 → w.cell? ⟨g, i * 3, none⟩ = some (.string ⟨#[]⟩) ∧ w.cell? ⟨g, i * 3 + 1, none⟩ = some (.int .i8 0) ∧ w.cell? ⟨g, i * 3 + 2, none⟩ = some (.int .i64 (9437184 + i + 1))) (hz : n ≤ 1048576) :
    Calls Tryz.prog 106 #[.slice (some ⟨g, 0, none⟩) n (n + 64)] w fun e w' => e = .returned (.bool true) ∧ Below w.heap.size w w' := by
  go_enter Tryz.func106, Tryz.ntmps106
  go_wp2
  go_loopw [4] (fun i wr => ∃ k : Nat, i = .int .i64 k ∧ n ≤ k ∧ k ≤ n + 64 ∧ Below w.heap.size w wr) (fun i _ => n + 64 - (intOf i).toNat)
  case atStart => exact ⟨n, rfl, by omega, by omega, Below.refl _ _⟩
  case round =>
    obtain ⟨k, rfl, hk, hk2, hB⟩ := hrel
    rename_i wr _
    by_cases hlt : k < n + 64
    · obtain ⟨c0, c1, c2⟩ := hA k hk hlt
      replace c0 := lkeep hB c0
      replace c1 := lkeep hB c1
      replace c2 := lkeep hB c2
      have HB : Hid (Below w.heap.size w _) := hB
      clear hB
      go_wp2_with fail
      go_quiet ((go_at_call 36; exact Calls.quiet_of_same (num_any _ _ (by omega) (by omega) (by omega) (by omega) _)))
      go_wp2
      go_roundw
      case rel => exact ⟨k + 1, by go_num, by omega, by omega, below_drewN (lb_alloc HB.out _) _⟩
      case measure => simp [intOf]; omega
    · go_wp2
      go_ret
      exact ⟨rfl, hB⟩
def MarkI (w : World) (K : IntKind) (g n : Nat) : Prop := ∀ i, n ≤ i → i < n + 64 → w.cell? ⟨g, i, none⟩ = some (.int K (9437184 + i + 1))
def MarkS (w : World) (g n : Nat) : Prop := ∀ i, n ≤ i → i < n + 64 → w.cell? ⟨g, i * 3, none⟩ = some (.string ⟨#[]⟩) ∧ w.cell? ⟨g, i * 3 + 1, none⟩ = some (.int .i8 0) ∧ w.cell? ⟨g, i * 3 + 2, none⟩ = some (.int .i64 (9437184 + i + 1))
def MarkR (w : World) (g n : Nat) : Prop := ∀ i, n ≤ i → i < n + 64 → w.cell? ⟨g, i * 2, none⟩ = some (.int .i64 (9437184 + i + 1)) ∧ w.cell? ⟨g, i * 2 + 1, none⟩ = some (.int .i64 0)
theorem MarkI.keep {w w1 : World} {K : IntKind} {g n : Nat} (h : MarkI w K g n) (hb : Below w.heap.size w w1) : MarkI w1 K g n := fun i a b => lkeep hb (h i a b)
theorem MarkS.keep {w w1 : World} {g n : Nat} (h : MarkS w g n) (hb : Below w.heap.size w w1) : MarkS w1 g n := fun i a b => ⟨lkeep hb (h i a b).1, lkeep hb (h i a b).2.1, lkeep hb (h i a b).2.2⟩
theorem MarkR.keep {w w1 : World} {g n : Nat} (h : MarkR w g n) (hb : Below w.heap.size w w1) : MarkR w1 g n := fun i a b => ⟨lkeep hb (h i a b).1, lkeep hb (h i a b).2⟩
set_option maxRecDepth 100000 in
set_option maxHeartbeats 2000000 in
theorem spareobj_any (nm : ByteArray) (dA : Int) (g1 n1 g2 n2 g3 n3 g4 n4 : Nat) (w : World) (m1 : MarkI w .u32 g1 n1) (m2 : MarkI w .i64 g2 n2) (m3 : MarkS w g3 n3) (m4 : MarkR w g4 n4) (b1 : n1 ≤ 1048576) (b2 : n2 ≤ 1048576) (b3 : n3 ≤ 1048576) (b4 : n4 ≤ 1048576) :
    Calls Tryz.prog 47 #[.agg #[.string nm, .slice (some ⟨g1, 0, none⟩) n1 (n1 + 64), .int .i64 dA, .slice (some ⟨g2, 0, none⟩) n2 (n2 + 64), .slice (some ⟨g3, 0, none⟩) n3 (n3 + 64), .slice (some ⟨g4, 0, none⟩) n4 (n4 + 64)]] w fun e w' => e = .returned (.bool true) ∧ Below w.heap.size w w' := by
  go_enter Tryz.func47, Tryz.ntmps47
  go_wp2_with fail
  refine (sparewords_any g1 n1 _ (m1.keep (lb_alloc (Below.refl _ _) _)) b1).mono ?_
  rintro e w0 ⟨rfl, rfl⟩
  go_wp2_with fail
  refine (sparelongs_any g2 n2 _ (m2.keep (lb_alloc (Below.refl _ _) _)) b2).mono ?_
  rintro e w1 ⟨rfl, rfl⟩
  go_wp2_with fail
  refine (sparesym_any g3 n3 _ (m3.keep (lb_alloc (Below.refl _ _) _)) b3).mono ?_
  rintro e w2 ⟨rfl, hb2⟩
  have HB2 : Hid (Below w.heap.size w w2) := lb_trans (lb_alloc (Below.refl _ _) _) hb2
  have q20 : w2.cell? ⟨w.heap.size, 0, none⟩ = some (.string nm) := lkeep hb2 (by simp [go_sem])
  have q21 : w2.cell? ⟨w.heap.size, 1, none⟩ = some (.slice (some ⟨g1, 0, none⟩) n1 (n1 + 64)) := lkeep hb2 (by simp [go_sem])
  have q22 : w2.cell? ⟨w.heap.size, 2, none⟩ = some (.int .i64 dA) := lkeep hb2 (by simp [go_sem])
  have q23 : w2.cell? ⟨w.heap.size, 3, none⟩ = some (.slice (some ⟨g2, 0, none⟩) n2 (n2 + 64)) := lkeep hb2 (by simp [go_sem])
  have q24 : w2.cell? ⟨w.heap.size, 4, none⟩ = some (.slice (some ⟨g3, 0, none⟩) n3 (n3 + 64)) := lkeep hb2 (by simp [go_sem])
  have q25 : w2.cell? ⟨w.heap.size, 5, none⟩ = some (.slice (some ⟨g4, 0, none⟩) n4 (n4 + 64)) := lkeep hb2 (by simp [go_sem])
  clear hb2
  go_wp2_with fail
  refine (sparerel_any g4 n4 _ (m4.keep (HB2.out)) b4).mono ?_
  rintro e w3 ⟨rfl, hb3⟩
  have HB3 : Hid (Below w.heap.size w w3) := lb_trans (HB2.out) hb3
  have q30 := lkeep hb3 q20
  have q31 := lkeep hb3 q21
  have q32 := lkeep hb3 q22
  have q33 := lkeep hb3 q23
  have q34 := lkeep hb3 q24
  have q35 := lkeep hb3 q25
  clear hb3
  go_wp2
  go_ret
  exact ⟨rfl, HB3.out⟩






end Go.Proofs.YthpkekpojhmaaaaGreatDoor

namespace Go.Proofs.YthpkekpojhmaaaaGreatDoor
open Go.RowKit

set_option maxRecDepth 100000 in
set_option maxHeartbeats 2000000 in
theorem wideobj_any (nm : ByteArray) (dA : Int) (A1 A2 A3 A4 : Option Addr) (c1 c2 c3 c4 : Nat) (code data : List Int) (ss : List Sym) (rs : List Rel) (w : World) (hC : IntsAt w A1 .u32 code) (hD : IntsAt w A2 .i64 data) (hS : SymsAt w A3 ss) (hL : RelsAt w A4 rs) (hc : code.length ≤ 1048576) (hd : data.length ≤ 1048576) (hs : ss.length ≤ 1048576) (hl : rs.length ≤ 1048576) :
    Calls Tryz.prog 35 #[.agg #[.string nm, .slice A1 code.length c1, .int .i64 dA, .slice A2 data.length c2, .slice A3 ss.length c3, .slice A4 rs.length c4]] w fun e w' => e = .returned (.agg #[.string nm, .slice (some ⟨w.heap.size + 2, 0, none⟩) code.length (code.length + 64), .int .i64 dA, .slice (some ⟨w.heap.size + 3, 0, none⟩) data.length (data.length + 64), .slice (some ⟨w.heap.size + 4, 0, none⟩) ss.length (ss.length + 64), .slice (some ⟨w.heap.size + 5, 0, none⟩) rs.length (rs.length + 64)]) ∧ w' = (((((w.alloc (.cells #[.string nm, .slice (some ⟨w.heap.size + 2, 0, none⟩) code.length (code.length + 64), .int .i64 dA, .slice (some ⟨w.heap.size + 3, 0, none⟩) data.length (data.length + 64), .slice (some ⟨w.heap.size + 4, 0, none⟩) ss.length (ss.length + 64), .slice (some ⟨w.heap.size + 5, 0, none⟩) rs.length (rs.length + 64)] 75)).alloc (.cells #[.string nm, .slice (some ⟨w.heap.size + 2, 0, none⟩) code.length (code.length + 64), .int .i64 dA, .slice (some ⟨w.heap.size + 3, 0, none⟩) data.length (data.length + 64), .slice (some ⟨w.heap.size + 4, 0, none⟩) ss.length (ss.length + 64), .slice (some ⟨w.heap.size + 5, 0, none⟩) rs.length (rs.length + 64)] 75)).alloc (.cells (wcur (wInt .u32 code) (fun _ => .int .u32 0) (code.length + 64) (code.length + 64)) 78)).alloc (.cells (wcur (wInt .i64 data) (fun _ => .int .i64 0) (data.length + 64) (data.length + 64)) 2)).alloc (.cells (wcur (wSym ss) zSym ((ss.length + 64) * 3) ((ss.length + 64) * 3)) 131)).alloc (.cells (wcur (wRel rs) (fun _ => .int .i64 0) ((rs.length + 64) * 2) ((rs.length + 64) * 2)) 83) := by
  go_enter Tryz.func35, Tryz.ntmps35
  go_wp2_with fail
  refine (widewords_any A1 c1 code _ (hC.keep (lb_alloc (lb_alloc (Below.refl _ _) _) _)) hc).mono ?_
  rintro e w1 ⟨rfl, rfl⟩
  go_wp2_with fail
  refine (widelongs_any A2 c2 data _ (hD.keep (lb_alloc (lb_alloc (lb_alloc (Below.refl _ _) _) _) _)) hd).mono ?_
  rintro e w1 ⟨rfl, rfl⟩
  go_wp2_with fail
  refine (widesym_any A3 c3 ss _ (hS.keep (lb_alloc (lb_alloc (lb_alloc (lb_alloc (Below.refl _ _) _) _) _) _)) hs).mono ?_
  rintro e w1 ⟨rfl, rfl⟩
  go_wp2_with fail
  refine (widerel_any A4 c4 rs _ (hL.keep (lb_alloc (lb_alloc (lb_alloc (lb_alloc (lb_alloc (Below.refl _ _) _) _) _) _) _)) hl).mono ?_
  rintro e w1 ⟨rfl, rfl⟩
  go_wp2
  exact bodyPost_ret (v := .agg #[.string nm, .slice (some ⟨w.heap.size + 2, 0, none⟩) code.length (code.length + 64), .int .i64 dA, .slice (some ⟨w.heap.size + 3, 0, none⟩) data.length (data.length + 64), .slice (some ⟨w.heap.size + 4, 0, none⟩) ss.length (ss.length + 64), .slice (some ⟨w.heap.size + 5, 0, none⟩) rs.length (rs.length + 64)]) (by simp [results, Tryz.results35, go_sem]) rfl ⟨rfl, rfl⟩







end Go.Proofs.YthpkekpojhmaaaaGreatDoor

namespace Go.Proofs.YthpkekpojhmaaaaGreatDoor
open Go.RowKit

theorem al_size (X : World) (o : Obj) : (X.alloc o).heap.size = X.heap.size + 1 := by simp
theorem addz (g i : Nat) : (⟨g, 0, none⟩ : Addr).add i = ⟨g, i, none⟩ := by
  unfold Addr.add; split
  · subst_vars; rfl
  · simp
theorem addz2 (g i j : Nat) (hj : ¬ j = 0) : ((⟨g, 0, none⟩ : Addr).add i).add j = ⟨g, i + j, none⟩ := by
  rw [addz]; unfold Addr.add; rw [if_neg hj]
theorem row_new (X : World) (cs : Array Value) (t : TypeId) (j : Nat) (v : Value) (h : cs[j]? = some v) : (X.alloc (.cells cs t)).cell? ⟨X.heap.size, j, none⟩ = some v := by
  rw [cell_of_row _ _ _ _ _ _ (heap_alloc_new X _)]; exact h
theorem wcur_full (f z : Nat → Value) (N i : Nat) (h : i < N) : (wcur f z N N)[i]? = some (f i) := by rw [wcur_get _ _ _ _ _ h, if_pos h]
theorem wide_ints (X : World) (K : IntKind) (z : Nat → Value) (zs : List Int) (t : TypeId) : IntsAt (X.alloc (.cells (wcur (wInt K zs) z (zs.length + 64) (zs.length + 64)) t)) (some ⟨X.heap.size, 0, none⟩) K zs := fun i hi =>
  ⟨_, rfl, by rw [addz]; exact row_new _ _ _ _ _ (by rw [wcur_full _ _ _ _ (by omega)]; simp [wInt, hi])⟩
theorem wide_marki (X : World) (K : IntKind) (z : Nat → Value) (zs : List Int) (t : TypeId) : MarkI (X.alloc (.cells (wcur (wInt K zs) z (zs.length + 64) (zs.length + 64)) t)) K X.heap.size zs.length := fun i h1 h2 =>
  row_new _ _ _ _ _ (by rw [wcur_full _ _ _ _ h2]; simp [wInt, mark, show ¬ i < zs.length by omega])
theorem wide_syms (X : World) (zs : List Sym) (t : TypeId) : SymsAt (X.alloc (.cells (wcur (wSym zs) zSym ((zs.length + 64) * 3) ((zs.length + 64) * 3)) t)) (some ⟨X.heap.size, 0, none⟩) zs := fun i hi =>
  ⟨_, rfl, by rw [addz]; exact row_new _ _ _ _ _ (by rw [wcur_full _ _ _ _ (by omega), wSym_item0 zs i hi]), by rw [addz2 _ _ _ (by omega)]; exact row_new _ _ _ _ _ (by rw [wcur_full _ _ _ _ (by omega), wSym_item1 zs i hi]), by rw [addz2 _ _ _ (by omega)]; exact row_new _ _ _ _ _ (by rw [wcur_full _ _ _ _ (by omega), wSym_item2 zs i hi])⟩
theorem wide_marks (X : World) (zs : List Sym) (t : TypeId) : MarkS (X.alloc (.cells (wcur (wSym zs) zSym ((zs.length + 64) * 3) ((zs.length + 64) * 3)) t)) X.heap.size zs.length := fun i h1 h2 =>
  ⟨row_new _ _ _ _ _ (by rw [wcur_full _ _ _ _ (by omega), wSym_mark0 zs i (by omega)]), row_new _ _ _ _ _ (by rw [wcur_full _ _ _ _ (by omega), wSym_mark1 zs i (by omega)]), row_new _ _ _ _ _ (by rw [wcur_full _ _ _ _ (by omega), wSym_mark2 zs i (by omega)])⟩
theorem wide_rels (X : World) (z : Nat → Value) (zs : List Rel) (t : TypeId) : RelsAt (X.alloc (.cells (wcur (wRel zs) z ((zs.length + 64) * 2) ((zs.length + 64) * 2)) t)) (some ⟨X.heap.size, 0, none⟩) zs := fun i hi =>
  ⟨_, rfl, by rw [addz]; exact row_new _ _ _ _ _ (by rw [wcur_full _ _ _ _ (by omega), wRel_item0 zs i hi]), by rw [addz2 _ _ _ (by omega)]; exact row_new _ _ _ _ _ (by rw [wcur_full _ _ _ _ (by omega), wRel_item1 zs i hi])⟩
theorem wide_markr (X : World) (z : Nat → Value) (zs : List Rel) (t : TypeId) : MarkR (X.alloc (.cells (wcur (wRel zs) z ((zs.length + 64) * 2) ((zs.length + 64) * 2)) t)) X.heap.size zs.length := fun i h1 h2 =>
  ⟨row_new _ _ _ _ _ (by rw [wcur_full _ _ _ _ (by omega), wRel_mark0 zs i (by omega)]), row_new _ _ _ _ _ (by rw [wcur_full _ _ _ _ (by omega), wRel_mark1 zs i (by omega)])⟩
theorem wideobj_lies (nm : ByteArray) (dA : Int) (A1 A2 A3 A4 : Option Addr) (c1 c2 c3 c4 : Nat) (code data : List Int) (ss : List Sym) (rs : List Rel) (w : World) (hC : IntsAt w A1 .u32 code) (hD : IntsAt w A2 .i64 data) (hS : SymsAt w A3 ss) (hL : RelsAt w A4 rs) (hc : code.length ≤ 1048576) (hd : data.length ≤ 1048576) (hs : ss.length ≤ 1048576) (hl : rs.length ≤ 1048576) :
    Calls Tryz.prog 35 #[.agg #[.string nm, .slice A1 code.length c1, .int .i64 dA, .slice A2 data.length c2, .slice A3 ss.length c3, .slice A4 rs.length c4]] w fun e w' => ∃ g1 g2 g3 g4 : Nat, e = .returned (.agg #[.string nm, .slice (some ⟨g1, 0, none⟩) code.length (code.length + 64), .int .i64 dA, .slice (some ⟨g2, 0, none⟩) data.length (data.length + 64), .slice (some ⟨g3, 0, none⟩) ss.length (ss.length + 64), .slice (some ⟨g4, 0, none⟩) rs.length (rs.length + 64)]) ∧
      Below w.heap.size w w' ∧ IntsAt w' (some ⟨g1, 0, none⟩) .u32 code ∧ IntsAt w' (some ⟨g2, 0, none⟩) .i64 data ∧ SymsAt w' (some ⟨g3, 0, none⟩) ss ∧ RelsAt w' (some ⟨g4, 0, none⟩) rs ∧ MarkI w' .u32 g1 code.length ∧ MarkI w' .i64 g2 data.length ∧ MarkS w' g3 ss.length ∧ MarkR w' g4 rs.length := by
  refine (wideobj_any nm dA A1 A2 A3 A4 c1 c2 c3 c4 code data ss rs w hC hD hS hL hc hd hs hl).mono ?_
  rintro e w' ⟨rfl, rfl⟩
  refine ⟨w.heap.size + 2, w.heap.size + 3, w.heap.size + 4, w.heap.size + 5, rfl, lb_alloc (lb_alloc (lb_alloc (lb_alloc (lb_alloc (lb_alloc (Below.refl _ _) _) _) _) _) _) _, ?_, ?_, ?_, ?_, ?_, ?_, ?_, ?_⟩
  · have h := wide_ints ((w.alloc (.cells #[.string nm, .slice (some ⟨w.heap.size + 2, 0, none⟩) code.length (code.length + 64), .int .i64 dA, .slice (some ⟨w.heap.size + 3, 0, none⟩) data.length (data.length + 64), .slice (some ⟨w.heap.size + 4, 0, none⟩) ss.length (ss.length + 64), .slice (some ⟨w.heap.size + 5, 0, none⟩) rs.length (rs.length + 64)] 75)).alloc (.cells #[.string nm, .slice (some ⟨w.heap.size + 2, 0, none⟩) code.length (code.length + 64), .int .i64 dA, .slice (some ⟨w.heap.size + 3, 0, none⟩) data.length (data.length + 64), .slice (some ⟨w.heap.size + 4, 0, none⟩) ss.length (ss.length + 64), .slice (some ⟨w.heap.size + 5, 0, none⟩) rs.length (rs.length + 64)] 75)) .u32 (fun _ => .int .u32 0) code 78
    simp only [al_size, Nat.add_assoc, Nat.reduceAdd] at h
    exact h.keep (lb_alloc (lb_alloc (lb_alloc (Below.refl _ _) _) _) _)
  · have h := wide_ints (((w.alloc (.cells #[.string nm, .slice (some ⟨w.heap.size + 2, 0, none⟩) code.length (code.length + 64), .int .i64 dA, .slice (some ⟨w.heap.size + 3, 0, none⟩) data.length (data.length + 64), .slice (some ⟨w.heap.size + 4, 0, none⟩) ss.length (ss.length + 64), .slice (some ⟨w.heap.size + 5, 0, none⟩) rs.length (rs.length + 64)] 75)).alloc (.cells #[.string nm, .slice (some ⟨w.heap.size + 2, 0, none⟩) code.length (code.length + 64), .int .i64 dA, .slice (some ⟨w.heap.size + 3, 0, none⟩) data.length (data.length + 64), .slice (some ⟨w.heap.size + 4, 0, none⟩) ss.length (ss.length + 64), .slice (some ⟨w.heap.size + 5, 0, none⟩) rs.length (rs.length + 64)] 75)).alloc (.cells (wcur (wInt .u32 code) (fun _ => .int .u32 0) (code.length + 64) (code.length + 64)) 78)) .i64 (fun _ => .int .i64 0) data 2
    simp only [al_size, Nat.add_assoc, Nat.reduceAdd] at h
    exact h.keep (lb_alloc (lb_alloc (Below.refl _ _) _) _)
  · have h := wide_syms ((((w.alloc (.cells #[.string nm, .slice (some ⟨w.heap.size + 2, 0, none⟩) code.length (code.length + 64), .int .i64 dA, .slice (some ⟨w.heap.size + 3, 0, none⟩) data.length (data.length + 64), .slice (some ⟨w.heap.size + 4, 0, none⟩) ss.length (ss.length + 64), .slice (some ⟨w.heap.size + 5, 0, none⟩) rs.length (rs.length + 64)] 75)).alloc (.cells #[.string nm, .slice (some ⟨w.heap.size + 2, 0, none⟩) code.length (code.length + 64), .int .i64 dA, .slice (some ⟨w.heap.size + 3, 0, none⟩) data.length (data.length + 64), .slice (some ⟨w.heap.size + 4, 0, none⟩) ss.length (ss.length + 64), .slice (some ⟨w.heap.size + 5, 0, none⟩) rs.length (rs.length + 64)] 75)).alloc (.cells (wcur (wInt .u32 code) (fun _ => .int .u32 0) (code.length + 64) (code.length + 64)) 78)).alloc (.cells (wcur (wInt .i64 data) (fun _ => .int .i64 0) (data.length + 64) (data.length + 64)) 2)) ss 131
    simp only [al_size, Nat.add_assoc, Nat.reduceAdd] at h
    exact h.keep (lb_alloc (Below.refl _ _) _)
  · have h := wide_rels (((((w.alloc (.cells #[.string nm, .slice (some ⟨w.heap.size + 2, 0, none⟩) code.length (code.length + 64), .int .i64 dA, .slice (some ⟨w.heap.size + 3, 0, none⟩) data.length (data.length + 64), .slice (some ⟨w.heap.size + 4, 0, none⟩) ss.length (ss.length + 64), .slice (some ⟨w.heap.size + 5, 0, none⟩) rs.length (rs.length + 64)] 75)).alloc (.cells #[.string nm, .slice (some ⟨w.heap.size + 2, 0, none⟩) code.length (code.length + 64), .int .i64 dA, .slice (some ⟨w.heap.size + 3, 0, none⟩) data.length (data.length + 64), .slice (some ⟨w.heap.size + 4, 0, none⟩) ss.length (ss.length + 64), .slice (some ⟨w.heap.size + 5, 0, none⟩) rs.length (rs.length + 64)] 75)).alloc (.cells (wcur (wInt .u32 code) (fun _ => .int .u32 0) (code.length + 64) (code.length + 64)) 78)).alloc (.cells (wcur (wInt .i64 data) (fun _ => .int .i64 0) (data.length + 64) (data.length + 64)) 2)).alloc (.cells (wcur (wSym ss) zSym ((ss.length + 64) * 3) ((ss.length + 64) * 3)) 131)) (fun _ => .int .i64 0) rs 83
    simp only [al_size, Nat.add_assoc, Nat.reduceAdd] at h
    exact h
  · have h := wide_marki ((w.alloc (.cells #[.string nm, .slice (some ⟨w.heap.size + 2, 0, none⟩) code.length (code.length + 64), .int .i64 dA, .slice (some ⟨w.heap.size + 3, 0, none⟩) data.length (data.length + 64), .slice (some ⟨w.heap.size + 4, 0, none⟩) ss.length (ss.length + 64), .slice (some ⟨w.heap.size + 5, 0, none⟩) rs.length (rs.length + 64)] 75)).alloc (.cells #[.string nm, .slice (some ⟨w.heap.size + 2, 0, none⟩) code.length (code.length + 64), .int .i64 dA, .slice (some ⟨w.heap.size + 3, 0, none⟩) data.length (data.length + 64), .slice (some ⟨w.heap.size + 4, 0, none⟩) ss.length (ss.length + 64), .slice (some ⟨w.heap.size + 5, 0, none⟩) rs.length (rs.length + 64)] 75)) .u32 (fun _ => .int .u32 0) code 78
    simp only [al_size, Nat.add_assoc, Nat.reduceAdd] at h
    exact h.keep (lb_alloc (lb_alloc (lb_alloc (Below.refl _ _) _) _) _)
  · have h := wide_marki (((w.alloc (.cells #[.string nm, .slice (some ⟨w.heap.size + 2, 0, none⟩) code.length (code.length + 64), .int .i64 dA, .slice (some ⟨w.heap.size + 3, 0, none⟩) data.length (data.length + 64), .slice (some ⟨w.heap.size + 4, 0, none⟩) ss.length (ss.length + 64), .slice (some ⟨w.heap.size + 5, 0, none⟩) rs.length (rs.length + 64)] 75)).alloc (.cells #[.string nm, .slice (some ⟨w.heap.size + 2, 0, none⟩) code.length (code.length + 64), .int .i64 dA, .slice (some ⟨w.heap.size + 3, 0, none⟩) data.length (data.length + 64), .slice (some ⟨w.heap.size + 4, 0, none⟩) ss.length (ss.length + 64), .slice (some ⟨w.heap.size + 5, 0, none⟩) rs.length (rs.length + 64)] 75)).alloc (.cells (wcur (wInt .u32 code) (fun _ => .int .u32 0) (code.length + 64) (code.length + 64)) 78)) .i64 (fun _ => .int .i64 0) data 2
    simp only [al_size, Nat.add_assoc, Nat.reduceAdd] at h
    exact h.keep (lb_alloc (lb_alloc (Below.refl _ _) _) _)
  · have h := wide_marks ((((w.alloc (.cells #[.string nm, .slice (some ⟨w.heap.size + 2, 0, none⟩) code.length (code.length + 64), .int .i64 dA, .slice (some ⟨w.heap.size + 3, 0, none⟩) data.length (data.length + 64), .slice (some ⟨w.heap.size + 4, 0, none⟩) ss.length (ss.length + 64), .slice (some ⟨w.heap.size + 5, 0, none⟩) rs.length (rs.length + 64)] 75)).alloc (.cells #[.string nm, .slice (some ⟨w.heap.size + 2, 0, none⟩) code.length (code.length + 64), .int .i64 dA, .slice (some ⟨w.heap.size + 3, 0, none⟩) data.length (data.length + 64), .slice (some ⟨w.heap.size + 4, 0, none⟩) ss.length (ss.length + 64), .slice (some ⟨w.heap.size + 5, 0, none⟩) rs.length (rs.length + 64)] 75)).alloc (.cells (wcur (wInt .u32 code) (fun _ => .int .u32 0) (code.length + 64) (code.length + 64)) 78)).alloc (.cells (wcur (wInt .i64 data) (fun _ => .int .i64 0) (data.length + 64) (data.length + 64)) 2)) ss 131
    simp only [al_size, Nat.add_assoc, Nat.reduceAdd] at h
    exact h.keep (lb_alloc (Below.refl _ _) _)
  · have h := wide_markr (((((w.alloc (.cells #[.string nm, .slice (some ⟨w.heap.size + 2, 0, none⟩) code.length (code.length + 64), .int .i64 dA, .slice (some ⟨w.heap.size + 3, 0, none⟩) data.length (data.length + 64), .slice (some ⟨w.heap.size + 4, 0, none⟩) ss.length (ss.length + 64), .slice (some ⟨w.heap.size + 5, 0, none⟩) rs.length (rs.length + 64)] 75)).alloc (.cells #[.string nm, .slice (some ⟨w.heap.size + 2, 0, none⟩) code.length (code.length + 64), .int .i64 dA, .slice (some ⟨w.heap.size + 3, 0, none⟩) data.length (data.length + 64), .slice (some ⟨w.heap.size + 4, 0, none⟩) ss.length (ss.length + 64), .slice (some ⟨w.heap.size + 5, 0, none⟩) rs.length (rs.length + 64)] 75)).alloc (.cells (wcur (wInt .u32 code) (fun _ => .int .u32 0) (code.length + 64) (code.length + 64)) 78)).alloc (.cells (wcur (wInt .i64 data) (fun _ => .int .i64 0) (data.length + 64) (data.length + 64)) 2)).alloc (.cells (wcur (wSym ss) zSym ((ss.length + 64) * 3) ((ss.length + 64) * 3)) 131)) (fun _ => .int .i64 0) rs 83
    simp only [al_size, Nat.add_assoc, Nat.reduceAdd] at h
    exact h







end Go.Proofs.YthpkekpojhmaaaaGreatDoor
