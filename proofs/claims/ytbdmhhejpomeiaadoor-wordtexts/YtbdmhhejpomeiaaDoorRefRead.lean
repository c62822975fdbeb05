/-
  Read of the document's answer returns the word whose text the string is, or none, for every string, where the table of powers of ten lies as listed.
-/
import Derived.Test.YtbdmhhejpomeiaaDoorRead
import Derived.Deep.DeepCutAuto
namespace Go.Proofs.YtbdmhhejpomeiaaDoor
open Go.RowKit

theorem head_at (s : ByteArray) (h : 0 < s.size) : s.data.toList.head? = some s[0] := by
  have h' : 0 < s.data.toList.length := by simpa using h
  rw [List.head?_eq_getElem?, List.getElem?_eq_getElem h']; rfl
theorem head_no (s : ByteArray) (h : ¬ 0 < s.size) : s.data.toList.head? = none := by
  have e : s.data.toList.length = s.size := by rw [Array.length_toList]; rfl
  have h' : s.data.toList.length = 0 := by omega
  rw [List.eq_nil_of_length_eq_zero h']; rfl
theorem head_is (s : ByteArray) (h : 0 < s.size) (n : Nat) (hn : n < 256) : ((s[0].toNat : Int) == (n : Int)) = decide (s.data.toList.head? = some (UInt8.ofNat n)) := by
  rw [head_at s h]
  have e : (some s[0] = some (UInt8.ofNat n)) ↔ s[0].toNat = n := by
    rw [Option.some.injEq]
    constructor
    · intro hh; rw [hh, UInt8.toNat_ofNat']; omega
    · intro hh; apply UInt8.toNat_inj.1; rw [hh, UInt8.toNat_ofNat']; omega
  by_cases hq : s[0].toNat = n
  · rw [decide_eq_true (e.2 hq), hq]; simp
  · rw [decide_eq_false (fun hh => hq (e.1 hh))]; simp; omega
theorem tail_of (s : ByteArray) (h : 0 < s.size) : (s.extract 1 s.size).data.toList = s.data.toList.tail ∧ (s.extract 1 s.size).size ≤ s.size := by
  constructor
  · have e : s.data.toList.length = s.size := by rw [Array.length_toList]; rfl
    rw [Lib.extract_data, ← List.drop_one, List.take_of_length_le]
    rw [List.length_drop]; omega
  · rw [ByteArray.size_extract]; omega

theorem len_data (s : ByteArray) : s.data.toList.length = s.size := by rw [Array.length_toList]; rfl

theorem readF_len {l : List UInt8} {r : ByteArray} (e : r.data.toList = behindMinus (behindAt l)) (h : r.size < 1 ∨ 19 < r.size) : readF l = none := by
  have hl := len_data r
  rw [e] at hl
  have : rpar l = none := by unfold rpar; rw [if_pos (by omega)]
  unfold readF; rw [this]

theorem readF_dig {l : List UInt8} {r : ByteArray} (e : r.data.toList = behindMinus (behindAt l)) (h : rdig r.data.toList 0 = none) : readF l = none := by
  rw [e] at h
  have : rpar l = none := by
    unfold rpar
    split
    · rfl
    · rw [h]
  unfold readF; rw [this]

theorem fin_none {l : List UInt8} (h : readF l = none) : Ending.returned (.tuple #[.agg #[.int .i64 0, .bool false], .bool false]) = .returned (.tuple #[.agg #[.int .i64 (rV (readF l)), .bool (rC (readF l))], .bool (readF l).isSome]) := by
  rw [h]; rfl

theorem rdig_some {b : UInt8} {l : List UInt8} {v : Nat} (h1 : 48 ≤ (b.toNat : Int)) (h2 : (b.toNat : Int) ≤ 57) : rdig (b :: l) v = rdig l (10 * v + (b.toNat - 48)) := by
  rw [rdig, if_pos (by omega)]
theorem rdig_no {b : UInt8} {l : List UInt8} {v : Nat} (h1 : (b.toNat : Int) < 48 ∨ 57 < (b.toNat : Int)) : rdig (b :: l) v = none := by
  rw [rdig, if_neg (by omega)]
theorem rpar_big {l : List UInt8} {r : ByteArray} {v : Nat} {m : Bool} (e : r.data.toList = behindMinus (behindAt l)) (hm : m = decide ((behindAt l).head? = some 45)) (h0 : rdig r.data.toList 0 = some v)
    (hv : (9223372036854775808 : Int) < v ∨ ((9223372036854775808 : Int) ≤ v ∧ m = false)) : readF l = none := by
  rw [e] at h0
  have : rpar l = none := by
    unfold rpar
    split
    · rfl
    · rw [h0]
      simp only
      rw [if_pos]
      rcases hv with hv | ⟨hv, hf⟩
      · exact Or.inl (by omega)
      · rw [hf] at hm
        have hh : (behindAt l).head? ≠ some 45 := of_decide_eq_false hm.symm
        by_cases hq : 9223372036854775808 < v
        · exact Or.inl hq
        · exact Or.inr ⟨by omega, hh⟩
  unfold readF; rw [this]

theorem rpar_ok {l : List UInt8} {r : ByteArray} {v : Nat} {c m : Bool} (e : r.data.toList = behindMinus (behindAt l)) (hc : c = decide (l.head? = some 64)) (hm : m = decide ((behindAt l).head? = some 45)) (hl : 1 ≤ r.size ∧ r.size ≤ 19) (h0 : rdig r.data.toList 0 = some v)
    (hv : (v : Int) ≤ 9223372036854775807 ∨ ((v : Int) ≤ 9223372036854775808 ∧ m = true)) : rpar l = some (if m then - (v : Int) else v, c) := by
  have hlen := len_data r
  rw [e] at h0 hlen
  unfold rpar
  rw [if_neg (by omega), h0]
  simp only
  rw [if_neg]
  · rw [hc, hm]
    by_cases hh : (behindAt l).head? = some 45
    · simp [hh]
    · simp [hh]
  · rintro (hq | ⟨hq, hn⟩)
    · omega
    · rcases hv with hv | ⟨hv, hf⟩
      · omega
      · rw [hf] at hm
        exact hn (of_decide_eq_true hm.symm)

theorem fin_some {l : List UInt8} {X : Int} {c : Bool} (hp : rpar l = some (X, c)) (h : txt X c = l) : Ending.returned (.tuple #[.agg #[.int .i64 X, .bool c], .bool true]) = .returned (.tuple #[.agg #[.int .i64 (rV (readF l)), .bool (rC (readF l))], .bool (readF l).isSome]) := by
  have : readF l = some (X, c) := by unfold readF; rw [hp]; simp only; rw [if_pos h]
  rw [this]; rfl
theorem fin_no {l : List UInt8} {X : Int} {c : Bool} (hp : rpar l = some (X, c)) (h : ¬ txt X c = l) : readF l = none := by
  unfold readF; rw [hp]; simp only; rw [if_neg h]

theorem u64_num {b : UInt8} {v : Nat} (h : 48 ≤ (b.toNat : Int)) : Value.int .u64 (10 * (v : Int) + ((b.toNat : Int) - 48)) = .int .u64 ((10 * v + (b.toNat - 48) : Nat) : Int) := by
  have : (10 * (v : Int) + ((b.toNat : Int) - 48)) = ((10 * v + (b.toNat - 48) : Nat) : Int) := by omega
  rw [this]
theorem pow_step {b : UInt8} {v k : Nat} (h : v < 10 ^ k) (h1 : 48 ≤ (b.toNat : Int)) (h2 : (b.toNat : Int) ≤ 57) : 10 * v + (b.toNat - 48) < 10 ^ (k + 1) := by
  rw [Nat.pow_succ]; omega
theorem small_pow {v k : Nat} (h : v < 10 ^ k) (hk : k ≤ 18) : v ≤ 999999999999999999 := by
  have : 10 ^ k ≤ 10 ^ 18 := Nat.pow_le_pow_right (by omega) hk
  omega

set_option maxRecDepth 100000 in
set_option maxHeartbeats 1000000 in
theorem refread_any (s : ByteArray) (hs : s.size ≤ maxLen) (w : World) (ht : Tab w) : Calls Tryd.prog 17 #[.string s] w fun e w' =>
    e = .returned (.tuple #[.agg #[.int .i64 (rV (readF s.data.toList)), .bool (rC (readF s.data.toList))], .bool (readF s.data.toList).isSome]) ∧ Below w.heap.size w w' := by
  unfold maxLen at hs
  obtain ⟨c, HC⟩ : ∃ c : Bool, Hid (c = decide (s.data.toList.head? = some 64)) := ⟨_, rfl⟩
  obtain ⟨m, HM⟩ : ∃ m : Bool, Hid (m = decide ((behindAt s.data.toList).head? = some 45)) := ⟨_, rfl⟩
  go_enter Tryd.func17, Tryd.ntmps17
  go_upto_region 3 with fail
  go_cut [18] (fun t wx => t = .bool c ∧ wx = (w.alloc (.cells #[.int .i64 0, .bool false] 24)).alloc (.cells #[.int .i64 0, .bool false] 24))
  case first =>
    by_cases h0 : 0 < s.size
    · have h1 : (0 : Int) < s.size := by omega
      go_wp2
      go_meet
      case rel => exact ⟨by rw [HC.out]; exact congrArg Value.bool (head_is s h0 64 (by decide)), rfl⟩
    · have h1 : ¬ (0 : Int) < s.size := by omega
      go_wp2
      go_meet
      case rel => exact ⟨by rw [HC.out, head_no s h0]; rfl, rfl⟩
  case rest =>
    obtain ⟨rfl, rfl⟩ := hcut
    go_upto_if 18 with fail
    go_cut [5] (fun t wx => ∃ r : ByteArray, t = .string r ∧ r.size ≤ s.size ∧ Hid (r.data.toList = behindAt s.data.toList) ∧ wx = (w.alloc (.cells #[.int .i64 0, .bool false] 24)).alloc (.cells #[.int .i64 0, .bool c] 24))
    case first =>
      cases c
      · have hh : ¬ s.data.toList.head? = some 64 := of_decide_eq_false HC.out.symm
        go_wp2
        go_meet
        case rel => exact ⟨s, rfl, Nat.le_refl _, by unfold behindAt; rw [if_neg hh]; rfl, rfl⟩
      · have hh : s.data.toList.head? = some 64 := of_decide_eq_true HC.out.symm
        have h0 : 0 < s.size := by
          apply Nat.lt_of_not_le
          intro hn
          rw [head_no s (by omega)] at hh
          cases hh
        have HT1 : Hid (s.data.toList.head? = some 64) := hh
        clear hh
        have h1 : (1 : Int) ≤ s.size := by omega
        go_wp2
        go_meet
        case rel => exact ⟨s.extract 1 s.size, rfl, (tail_of s h0).2, by unfold behindAt; rw [if_pos HT1.out]; exact (tail_of s h0).1, rfl⟩
    case rest =>
      obtain ⟨r1, rfl, hr1, HR1, rfl⟩ := hcut
      go_upto_region 6 with fail
      go_cut [6] (fun t wx => t = .bool m ∧ wx = (w.alloc (.cells #[.int .i64 0, .bool false] 24)).alloc (.cells #[.int .i64 0, .bool c] 24))
      case first =>
        by_cases h0 : 0 < r1.size
        · have h1 : (0 : Int) < r1.size := by omega
          go_wp2
          go_meet
          case rel => exact ⟨by rw [HM.out, ← HR1.out]; exact congrArg Value.bool (head_is r1 h0 45 (by decide)), rfl⟩
        · have h1 : ¬ (0 : Int) < r1.size := by omega
          go_wp2
          go_meet
          case rel => exact ⟨by rw [HM.out, ← HR1.out, head_no r1 h0]; rfl, rfl⟩
      case rest =>
        obtain ⟨rfl, rfl⟩ := hcut
        go_upto_if 30 with fail
        go_cut [5] (fun t wx => ∃ r : ByteArray, t = .string r ∧ r.size ≤ s.size ∧ Hid (r.data.toList = behindMinus (behindAt s.data.toList)) ∧ wx = (w.alloc (.cells #[.int .i64 0, .bool false] 24)).alloc (.cells #[.int .i64 0, .bool c] 24))
        case first =>
          cases m
          · have hh : ¬ (behindAt s.data.toList).head? = some 45 := of_decide_eq_false HM.out.symm
            go_wp2
            go_meet
            case rel => exact ⟨r1, rfl, hr1, by unfold behindMinus; rw [if_neg hh]; exact HR1.out, rfl⟩
          · have hh : (behindAt s.data.toList).head? = some 45 := of_decide_eq_true HM.out.symm
            have h0 : 0 < r1.size := by
              apply Nat.lt_of_not_le
              intro hn
              rw [← HR1.out, head_no r1 (by omega)] at hh
              cases hh
            have HT1 : Hid ((behindAt s.data.toList).head? = some 45) := hh
            clear hh
            have h1 : (1 : Int) ≤ r1.size := by omega
            go_wp2
            go_meet
            case rel => exact ⟨r1.extract 1 r1.size, rfl, Nat.le_trans (tail_of r1 h0).2 hr1, by unfold behindMinus; rw [if_pos HT1.out, ← HR1.out]; exact (tail_of r1 h0).1, rfl⟩
        case rest =>
          obtain ⟨r, rfl, hr, HR, rfl⟩ := hcut
          clear HR1 hr1 r1
          by_cases hL : r.size < 1 ∨ 19 < r.size
          · rcases hL with hL | hL
            · go_wp2
              exact bodyPost_ret (v := .tuple #[.agg #[.int .i64 0, .bool false], .bool false]) (by simp [results, Tryd.results17, go_sem]) rfl ⟨fin_none (readF_len HR.out (Or.inl hL)), bel_alloc (bel_alloc (Below.refl _ _) _) _⟩
            · go_wp2
              exact bodyPost_ret (v := .tuple #[.agg #[.int .i64 0, .bool false], .bool false]) (by simp [results, Tryd.results17, go_sem]) rfl ⟨fin_none (readF_len HR.out (Or.inr hL)), bel_alloc (bel_alloc (Below.refl _ _) _) _⟩
          · have h1 : 1 ≤ r.size := by omega
            have h2 : r.size ≤ 19 := by omega
            have HL : Hid (1 ≤ r.size ∧ r.size ≤ 19) := ⟨h1, h2⟩
            clear hL
            go_wp2
            go_loop [7, 8] (fun t i => ∃ k v : Nat, k ≤ r.size ∧ i = .int .i64 k ∧ t = .int .u64 v ∧ Hid (v < 10 ^ k) ∧ Hid (rdig (r.data.toList.drop k) v = rdig r.data.toList 0)) (fun _ i => r.size - (intOf i).toNat)
            case atStart => exact ⟨0, 0, Nat.zero_le _, rfl, rfl, by simp [Hid], by simp [Hid]⟩
            case round =>
              obtain ⟨k, v, hk, rfl, rfl, HV, HG⟩ := hrel
              by_cases hlt : k < r.size
              · have hv : v ≤ 999999999999999999 := small_pow HV.out (by omega)
                have HD : Hid (r.data.toList.drop k = r[k] :: r.data.toList.drop (k + 1)) := drop_at r k hlt
                go_wp2
                · exact bodyPost_ret (v := .tuple #[.agg #[.int .i64 0, .bool false], .bool false]) (by simp [results, Tryd.results17, go_sem]) rfl ⟨fin_none (readF_dig HR.out (by rw [← HG.out, HD.out]; exact rdig_no ‹_ ∨ _›)), bel_alloc (bel_alloc (Below.refl _ _) _) _⟩
                · have g : 48 ≤ (r[k].toNat : Int) ∧ (r[k].toNat : Int) ≤ 57 := by assumption
                  go_round
                  case rel => exact ⟨k + 1, 10 * v + (r[k].toNat - 48), by omega, by go_num, u64_num g.1, pow_step HV.out g.1 g.2, by have h := HG.out; rw [HD.out, rdig_some g.1 g.2] at h; exact h⟩
                  case measure => simp [intOf]; omega
                · exact bodyPost_ret (v := .tuple #[.agg #[.int .i64 0, .bool false], .bool false]) (by simp [results, Tryd.results17, go_sem]) rfl ⟨fin_none (readF_dig HR.out (by rw [← HG.out, HD.out]; exact rdig_no (Or.inl ‹_›))), bel_alloc (bel_alloc (Below.refl _ _) _) _⟩
              · have H0 : Hid (rdig r.data.toList 0 = some v) := by
                  have h := HG.out
                  rw [List.drop_eq_nil_of_le (by rw [len_data]; omega)] at h
                  exact h.symm
                clear HG HV hk h1 h2
                by_cases hb : (9223372036854775808 : Int) < v
                · have HN : Hid (readF s.data.toList = none) := rpar_big HR.out HM.out H0.out (Or.inl hb)
                  go_wp2
                  exact bodyPost_ret (v := .tuple #[.agg #[.int .i64 0, .bool false], .bool false]) (by simp [results, Tryd.results17, go_sem]) rfl ⟨fin_none HN.out, bel_alloc (bel_alloc (Below.refl _ _) _) _⟩
                · by_cases hc : (v : Int) < 9223372036854775808
                  · have hd : (v : Int) ≤ 9223372036854775807 := by omega
                    clear hb hc
                    cases m
                    · go_upto_region 20 with fail
                      go_cut [79] (fun t wx => t = .int .i64 v ∧ wx = (w.alloc (.cells #[.int .i64 0, .bool false] 24)).alloc (.cells #[.int .i64 v, .bool c] 24))
                      case first =>
                        go_wp2
                        go_meet
                        case rel => exact ⟨rfl, rfl⟩
                      case rest =>
                        obtain ⟨rfl, rfl⟩ := hcut
                        go_wp2_with fail
                        have HT : Hid (Tab ((w.alloc (.cells #[.int .i64 0, .bool false] 24)).alloc (.cells #[.int .i64 (v : Int), .bool c] 24))) := (ht.alloc _).alloc _
                        refine (reftext_any (v : Int) c (by unfold InR; omega) _ HT.out).mono ?_
                        rintro e w2 ⟨rfl, hb2⟩
                        have HP : Hid (rpar s.data.toList = some ((v : Int), c)) := rpar_ok HR.out HC.out HM.out HL.out H0.out (Or.inl hd)
                        have r20 : w2.cell? ⟨w.heap.size, 0, none⟩ = some (.int .i64 0) := cell_keep hb2 (by simp)
                        have r21 : w2.cell? ⟨w.heap.size, 1, none⟩ = some (.bool false) := cell_keep hb2 (by simp)
                        have f20 : w2.frozen? ⟨w.heap.size, 0, none⟩ = false := frozen_keep hb2 (v := .int .i64 0) (by simp) (by simp [go_sem])
                        have f21 : w2.frozen? ⟨w.heap.size, 1, none⟩ = false := frozen_keep hb2 (v := .bool false) (by simp) (by simp [go_sem])
                        have v20 : w2.cell? ⟨w.heap.size + 1, 0, none⟩ = some (.int .i64 (v : Int)) := cell_keep hb2 (by simp)
                        have v21 : w2.cell? ⟨w.heap.size + 1, 1, none⟩ = some (.bool c) := cell_keep hb2 (by simp)
                        have HB2 : Hid (Below w.heap.size w w2) := bel_trans (bel_alloc (bel_alloc (Below.refl _ _) _) _) hb2
                        clear hb2 HT
                        by_cases h : txt (v : Int) c = s.data.toList
                        · have hq : ((txtB (v : Int) c).toList == s.toList) = true := by rw [same_text]; exact decide_eq_true h
                          have HE : Hid (txt (v : Int) c = s.data.toList) := h
                          clear h
                          go_wp2
                          exact bodyPost_ret (v := .tuple #[.agg #[.int .i64 (v : Int), .bool c], .bool true]) (by simp [results, Tryd.results17, go_sem, r20, r21]) rfl ⟨fin_some HP.out HE.out, (HB2.out.setCell (Nat.le_refl _) _).setCell (Nat.le_refl _) _⟩
                        · have hq : ((txtB (v : Int) c).toList == s.toList) = false := by rw [same_text]; exact decide_eq_false h
                          have HE : Hid (¬ txt (v : Int) c = s.data.toList) := h
                          clear h
                          go_wp2
                          exact bodyPost_ret (v := .tuple #[.agg #[.int .i64 0, .bool false], .bool false]) (by simp [results, Tryd.results17, go_sem, r20, r21]) rfl ⟨fin_none (fin_no HP.out HE.out), (HB2.out.setCell (Nat.le_refl _) _).setCell (Nat.le_refl _) _⟩
                    · go_upto_region 20 with fail
                      go_cut [79] (fun t wx => t = .int .i64 v ∧ wx = (w.alloc (.cells #[.int .i64 0, .bool false] 24)).alloc (.cells #[.int .i64 v, .bool c] 24))
                      case first =>
                        go_wp2
                        go_meet
                        case rel => exact ⟨rfl, rfl⟩
                      case rest =>
                        obtain ⟨rfl, rfl⟩ := hcut
                        go_wp2_with fail
                        have HT : Hid (Tab ((w.alloc (.cells #[.int .i64 0, .bool false] 24)).alloc (.cells #[.int .i64 (- (v : Int)), .bool c] 24))) := (ht.alloc _).alloc _
                        refine (reftext_any (- (v : Int)) c (by unfold InR; omega) _ HT.out).mono ?_
                        rintro e w2 ⟨rfl, hb2⟩
                        have HP : Hid (rpar s.data.toList = some ((- (v : Int)), c)) := rpar_ok HR.out HC.out HM.out HL.out H0.out (Or.inl hd)
                        have r20 : w2.cell? ⟨w.heap.size, 0, none⟩ = some (.int .i64 0) := cell_keep hb2 (by simp)
                        have r21 : w2.cell? ⟨w.heap.size, 1, none⟩ = some (.bool false) := cell_keep hb2 (by simp)
                        have f20 : w2.frozen? ⟨w.heap.size, 0, none⟩ = false := frozen_keep hb2 (v := .int .i64 0) (by simp) (by simp [go_sem])
                        have f21 : w2.frozen? ⟨w.heap.size, 1, none⟩ = false := frozen_keep hb2 (v := .bool false) (by simp) (by simp [go_sem])
                        have v20 : w2.cell? ⟨w.heap.size + 1, 0, none⟩ = some (.int .i64 (- (v : Int))) := cell_keep hb2 (by simp)
                        have v21 : w2.cell? ⟨w.heap.size + 1, 1, none⟩ = some (.bool c) := cell_keep hb2 (by simp)
                        have HB2 : Hid (Below w.heap.size w w2) := bel_trans (bel_alloc (bel_alloc (Below.refl _ _) _) _) hb2
                        clear hb2 HT
                        by_cases h : txt (- (v : Int)) c = s.data.toList
                        · have hq : ((txtB (- (v : Int)) c).toList == s.toList) = true := by rw [same_text]; exact decide_eq_true h
                          have HE : Hid (txt (- (v : Int)) c = s.data.toList) := h
                          clear h
                          go_wp2
                          exact bodyPost_ret (v := .tuple #[.agg #[.int .i64 (- (v : Int)), .bool c], .bool true]) (by simp [results, Tryd.results17, go_sem, r20, r21]) rfl ⟨fin_some HP.out HE.out, (HB2.out.setCell (Nat.le_refl _) _).setCell (Nat.le_refl _) _⟩
                        · have hq : ((txtB (- (v : Int)) c).toList == s.toList) = false := by rw [same_text]; exact decide_eq_false h
                          have HE : Hid (¬ txt (- (v : Int)) c = s.data.toList) := h
                          clear h
                          go_wp2
                          exact bodyPost_ret (v := .tuple #[.agg #[.int .i64 0, .bool false], .bool false]) (by simp [results, Tryd.results17, go_sem, r20, r21]) rfl ⟨fin_none (fin_no HP.out HE.out), (HB2.out.setCell (Nat.le_refl _) _).setCell (Nat.le_refl _) _⟩
                  · have hd : (9223372036854775808 : Int) ≤ v := by omega
                    have he : (v : Int) ≤ 9223372036854775808 := by omega
                    clear hb hc
                    cases m
                    · have HN : Hid (readF s.data.toList = none) := rpar_big HR.out HM.out H0.out (Or.inr ⟨hd, rfl⟩)
                      go_wp2
                      exact bodyPost_ret (v := .tuple #[.agg #[.int .i64 0, .bool false], .bool false]) (by simp [results, Tryd.results17, go_sem]) rfl ⟨fin_none HN.out, bel_alloc (bel_alloc (Below.refl _ _) _) _⟩
                    · have HP0 : Hid (rpar s.data.toList = some (wrap64 (-wrap64 9223372036854775808), c)) := by
                        have h := rpar_ok HR.out HC.out HM.out HL.out H0.out (Or.inr ⟨he, rfl⟩)
                        have e : (if true = true then - (v : Int) else v) = wrap64 (-wrap64 9223372036854775808) := by unfold wrap64; simp only [if_true]; omega
                        rw [e] at h
                        exact h
                      go_wp2_with fail
                      have HI : Hid (InR (wrap64 (-wrap64 9223372036854775808))) := inR_wrap _
                      generalize wrap64 (-wrap64 9223372036854775808) = X at HP0 HI ⊢
                      have HT : Hid (Tab ((w.alloc (.cells #[.int .i64 0, .bool false] 24)).alloc (.cells #[.int .i64 X, .bool c] 24))) := (ht.alloc _).alloc _
                      refine (reftext_any X c HI.out _ HT.out).mono ?_
                      rintro e w2 ⟨rfl, hb2⟩
                      have HP : Hid (rpar s.data.toList = some (X, c)) := HP0
                      have r20 : w2.cell? ⟨w.heap.size, 0, none⟩ = some (.int .i64 0) := cell_keep hb2 (by simp)
                      have r21 : w2.cell? ⟨w.heap.size, 1, none⟩ = some (.bool false) := cell_keep hb2 (by simp)
                      have f20 : w2.frozen? ⟨w.heap.size, 0, none⟩ = false := frozen_keep hb2 (v := .int .i64 0) (by simp) (by simp [go_sem])
                      have f21 : w2.frozen? ⟨w.heap.size, 1, none⟩ = false := frozen_keep hb2 (v := .bool false) (by simp) (by simp [go_sem])
                      have v20 : w2.cell? ⟨w.heap.size + 1, 0, none⟩ = some (.int .i64 X) := cell_keep hb2 (by simp)
                      have v21 : w2.cell? ⟨w.heap.size + 1, 1, none⟩ = some (.bool c) := cell_keep hb2 (by simp)
                      have HB2 : Hid (Below w.heap.size w w2) := bel_trans (bel_alloc (bel_alloc (Below.refl _ _) _) _) hb2
                      clear hb2 HT
                      by_cases h : txt X c = s.data.toList
                      · have hq : ((txtB X c).toList == s.toList) = true := by rw [same_text]; exact decide_eq_true h
                        have HE : Hid (txt X c = s.data.toList) := h
                        clear h
                        go_wp2
                        exact bodyPost_ret (v := .tuple #[.agg #[.int .i64 X, .bool c], .bool true]) (by simp [results, Tryd.results17, go_sem, r20, r21]) rfl ⟨fin_some HP.out HE.out, (HB2.out.setCell (Nat.le_refl _) _).setCell (Nat.le_refl _) _⟩
                      · have hq : ((txtB X c).toList == s.toList) = false := by rw [same_text]; exact decide_eq_false h
                        have HE : Hid (¬ txt X c = s.data.toList) := h
                        clear h
                        go_wp2
                        exact bodyPost_ret (v := .tuple #[.agg #[.int .i64 0, .bool false], .bool false]) (by simp [results, Tryd.results17, go_sem, r20, r21]) rfl ⟨fin_none (fin_no HP.out HE.out), (HB2.out.setCell (Nat.le_refl _) _).setCell (Nat.le_refl _) _⟩
end Go.Proofs.YtbdmhhejpomeiaaDoor
