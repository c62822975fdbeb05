/-
  Each instruction has one word and each word is one's, as plain facts on numbers; no Go in sight.
-/
import Derived.Test.YtfdkefnfebnmgaaDoorInsGoes
import Derived.Test.YtfdkefnfebnmgaaDoorInsNames
namespace Go.Proofs.YtfdkefnfebnmgaaDoor
open Go.RowKit

theorem of_name (op : Int) (h0 : 0 ≤ op) (h1 : op ≤ 21) : ofF (nameB op).data.toList = some op := by
  have : ∀ i : Fin 22, ofF (nameB (i.val : Int)).data.toList = some (i.val : Int) := by decide +kernel
  have h := this ⟨op.toNat, by omega⟩
  simp only at h
  rw [show ((op.toNat : Nat) : Int) = op by omega] at h
  exact h

theorem dOp_yes {v : Int} (h0 : 0 ≤ v) (h : isIns v = true) : 0 ≤ dOp v := by
  unfold dOp; rw [if_pos h]; unfold wOp; omega
theorem dOp_no {v : Int} (h : isIns v = false) : dOp v = -1 := by
  unfold dOp; rw [h]; rfl
theorem word_yes {v : Int} (h0 : 0 ≤ v) (h1 : v < 4294967296) (h : isIns v = true) : encV (dOp v) (dD v) (dA v) (dB v) (dN v) = v ∧ encE (dOp v) (dD v) (dA v) (dB v) (dN v) = 0 := by
  have e := enc_yes h0 h1 h
  unfold dOp dD dA dB dN
  rw [if_pos h, if_pos h, if_pos h, if_pos h, if_pos h]
  exact e
theorem word_no {v : Int} (h : isIns v = false) : encV (dOp v) (dD v) (dA v) (dB v) (dN v) = 0 ∧ encE (dOp v) (dD v) (dA v) (dB v) (dN v) = 10 := by
  rw [dOp_no h]
  unfold encV encE
  rw [if_pos (by omega), if_pos (by omega)]
  exact ⟨rfl, rfl⟩

theorem regOK_range {h : Bool} {r : Int} (hr : regOK h r = true) : 0 ≤ r ∧ r < 16 := by
  unfold regOK at hr
  cases h
  · simp at hr; omega
  · simp at hr; omega
theorem encE_ok {op d a b n : Int} (h : encE op d a b n = 0) : 0 ≤ op ∧ op ≤ 21 ∧ insOK op d a b n = true ∧ encV op d a b n = encW op d a b n := by
  unfold encE at h
  by_cases h1 : op < 0 ∨ 21 < op
  · rw [if_pos h1] at h; omega
  · rw [if_neg h1] at h
    cases hi : insOK op d a b n with
    | false => rw [hi] at h; simp at h
    | true =>
      refine ⟨by omega, by omega, rfl, ?_⟩
      unfold encV; rw [if_neg h1, hi]; rfl
theorem insOK_parts {op d a b n : Int} (h : insOK op d a b n = true) : (0 ≤ d ∧ d < 16) ∧ (0 ≤ a ∧ a < 16) ∧ (0 ≤ b ∧ b < 16) ∧ numOK (hN op) (hP op) n = true := by
  unfold insOK at h
  simp only [Bool.and_eq_true] at h
  exact ⟨regOK_range h.1.1.1, regOK_range h.1.1.2, regOK_range h.1.2, h.2⟩

theorem fields_enc {op d a b n : Int} (ho : 0 ≤ op ∧ op ≤ 21) (h : insOK op d a b n = true) :
    wOp (encW op d a b n) = op ∧ wD (encW op d a b n) = d ∧ wA (encW op d a b n) = a ∧ wB (encW op d a b n) = b ∧ wN (encW op d a b n) = n ∧ 0 ≤ encW op d a b n ∧ encW op d a b n < 4294967296 := by
  obtain ⟨hd, ha, hb, hn⟩ := insOK_parts h
  have e1 : wOp (encW op d a b n) = op := by unfold wOp encW; omega
  have e2 : wD (encW op d a b n) = d := by unfold wD encW; omega
  have e3 : wA (encW op d a b n) = a := by unfold wA encW; omega
  have e4 : wB (encW op d a b n) = b := by unfold wB encW; omega
  have e5 : encW op d a b n % 32768 = n % 32768 := by unfold encW; omega
  have e6 : 0 ≤ encW op d a b n ∧ encW op d a b n < 4294967296 := by unfold encW; omega
  refine ⟨e1, e2, e3, e4, ?_, e6.1, e6.2⟩
  unfold wN
  rw [e1, e5]
  unfold numOK at hn
  cases h1 : hN op with
  | false => rw [h1] at hn; simp at hn; subst hn; rfl
  | true =>
    rw [h1] at hn
    cases h2 : hP op with
    | true => rw [h2] at hn; simp at hn ⊢; omega
    | false =>
      rw [h2] at hn
      simp at hn
      by_cases hs : n < 0
      · have e7 : n % 32768 = n + 32768 := by omega
        rw [e7, decide_eq_true (by omega)]; simp
      · have e7 : n % 32768 = n := by omega
        rw [e7, decide_eq_false (by omega)]; simp

theorem dec_enc {op d a b n : Int} (h : encE op d a b n = 0) : dOp (encV op d a b n) = op ∧ dD (encV op d a b n) = d ∧ dA (encV op d a b n) = a ∧ dB (encV op d a b n) = b ∧ dN (encV op d a b n) = n := by
  obtain ⟨h1, h2, h3, h4⟩ := encE_ok h
  obtain ⟨e1, e2, e3, e4, e5, _, _⟩ := fields_enc ⟨h1, h2⟩ h3
  rw [h4]
  have hi : isIns (encW op d a b n) = true := by
    unfold isIns; rw [e1, e2, e3, e4, e5, h3, decide_eq_true h2]; rfl
  unfold dOp dD dA dB dN
  rw [if_pos hi, if_pos hi, if_pos hi, if_pos hi, if_pos hi]
  exact ⟨e1, e2, e3, e4, e5⟩
theorem enc_range (op d a b n : Int) : 0 ≤ encV op d a b n ∧ encV op d a b n < 4294967296 := by
  unfold encV
  by_cases h1 : op < 0 ∨ 21 < op
  · rw [if_pos h1]; omega
  · rw [if_neg h1]
    cases hi : insOK op d a b n with
    | false => simp
    | true =>
      obtain ⟨_, _, _, _, _, h, k⟩ := fields_enc ⟨by omega, by omega⟩ hi
      exact ⟨h, k⟩
theorem aim_range (v p : Int) : 0 ≤ aimV v p ∧ aimV v p < 4294967296 := by
  unfold aimV
  split
  · exact enc_range _ _ _ _ _
  · omega
theorem aim_target {v p : Int} (h : aimE v p = 0) : isT (aimV v p) = true ∧ tgV (aimV v p) = p := by
  unfold aimE at h
  cases hT : isT v with
  | false => rw [hT] at h; simp at h
  | true =>
    rw [hT] at h
    simp only [if_true] at h
    cases hp : decide (0 ≤ p ∧ p < 16384) with
    | false => rw [hp] at h; simp at h
    | true =>
      rw [hp] at h
      simp only [if_true] at h
      have ha : aimV v p = encV (dOp v) (dD v) (dA v) (dB v) p := by unfold aimV; rw [hT, hp]; rfl
      obtain ⟨e1, _, _, _, e5⟩ := dec_enc h
      have hq : isT (aimV v p) = true := by
        unfold isT; rw [ha, e1]; exact hT
      refine ⟨hq, ?_⟩
      unfold tgV; rw [hq, ha, e5]; rfl

end Go.Proofs.YtfdkefnfebnmgaaDoor
