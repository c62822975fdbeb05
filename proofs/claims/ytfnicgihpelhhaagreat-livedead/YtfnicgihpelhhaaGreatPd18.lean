/-
  One step of both machines, the one with a word more; no Go in sight. The other text, word by word; both machines at the beginning; no Go in sight. A row of cells and a map are not one; new blocks. The other image while its text is filled.
-/
import Derived.Test.YtfnicgihpelhhaaGreatProg
import Derived.WalkKit
import Derived.WalkSpells
import Derived.WalkLawsBesides
import Derived.RowKit3
import Derived.Below
import Derived.Deep.QuietTactic
import Derived.BigQuiet
import Derived.WalkSmall
import Derived.Laws.Rows
import Derived.Test.YtfnicgihpelhhaaGreatPd17
import Derived.Test.YtfnicgihpelhhaaGreatPd15
import Derived.Test.YtfnicgihpelhhaaGreatPd11
import Derived.Test.YtfnicgihpelhhaaGreatPd04
import Derived.Test.YtfnicgihpelhhaaGreatPd14
namespace Go.Proofs.YtfnicgihpelhhaaGreat
open Go.RowKit

def shN (q p : Nat) : Nat := if q < p then p + 1 else p
theorem shN_cast (q p : Nat) : ((shN q p : Nat) : Int) = shP q (p : Int) := by
  unfold shN shP
  by_cases h : q < p
  · rw [if_pos h, if_pos (by omega)]; omega
  · rw [if_neg h, if_neg (by omega)]
/-- A word and its twin. -/
structure Twn (q : Nat) (v v' : Int) : Prop where
  op : dOp v' = dOp v
  d : dD v' = dD v
  a : dA v' = dA v
  b : dB v' = dB v
  n : dN v' = if hP (dOp v) = true then shP q (dN v) else dN v
/-- A text, and the one that has a word more behind q, which sets the register r. -/
structure Oth (text text' : List Int) (q : Nat) (r : Int) : Prop where
  len : text'.length = text.length + 1
  qlt : q + 1 < text.length
  old : ∀ i, i < text.length → Twn q (nth text i) (nth text' (shN q i))
  op : dOp (nth text' (q + 1)) = 1
  d : dD (nth text' (q + 1)) = r
  plain : endsB (dOp (nth text q)) = false
theorem lessN_lt2 (a b : Nat) : lessN a b < 65536 := by
  have : lessN a b ≤ 65535 - b := Nat.and_le_right
  omega
theorem lst_lt {text : List Int} {ent : Int} {F G : Int → Nat} (h : LstI text ent F G) (i : Nat) (hi : i < (blkL text ent).length) : G (i : Int) < 65536 := by
  have hF : ∀ j : Nat, j < (blkL text ent).length → F (j : Int) < 65536 := fun j hj => by
    rw [h.sol.inn j hj]
    exact orN_lt (blR_lt text ent j) (lessN_lt2 _ _)
  rw [h.sol.out i hi]
  have : ∀ n, n ≤ (rowZ (edgT text ent (blkL text ent).length) i).length → orE F (rowZ (edgT text ent (blkL text ent).length) i) n < 65536 := by
    intro n
    induction n with
    | zero => intro _; show 0 < 65536; decide
    | succ n ih =>
      intro hn
      obtain ⟨a, b⟩ := edg_in (text := text) (ent := ent) hi (show n < _ by omega)
      refine orN_lt (ih (by omega)) ?_
      have := hF (nth (rowZ (edgT text ent (blkL text ent).length) i) n).toNat (by omega)
      rwa [show (((nth (rowZ (edgT text ent (blkL text ent).length) i) n).toNat : Nat) : Int) = nth (rowZ (edgT text ent (blkL text ent).length) i) n by omega] at this
  exact this _ (Nat.le_refl _)
/-- Both machines, between steps. -/
structure Rl (text text' : List Int) (ent : Int) (q : Nat) (H : Int → Nat) (m k : Mach) : Prop where
  go : Going text ent m
  fine : Fine k
  txt : k.text = text'
  pc : k.pc = shN q m.pc
  sim : Sim q (livA text H m.pc) m k
theorem bit_self {h : Bool} {r : Int} (hh : h = true) : (bitN h r).testBit r.toNat = true := by
  unfold bitN
  rw [if_pos hh]
  exact Nat.testBit_two_pow_self
theorem bit_only {h : Bool} {r : Int} {i : Nat} (hb : (bitN h r).testBit i = true) : h = true ∧ i = r.toNat := by
  unfold bitN at hb
  split at hb
  · rename_i hh
    rw [Nat.testBit_two_pow, decide_eq_true_eq] at hb
    exact ⟨hh, hb.symm⟩
  · rw [Nat.zero_testBit] at hb; cases hb
theorem livA_a {text : List Int} {H : Int → Nat} {p : Nat} (h : hA (dOp (nth text p)) = true) : (livA text H p).testBit (dA (nth text p)).toNat = true := by
  unfold livA insN rdN
  rw [Nat.testBit_or, Nat.testBit_or, bit_self h]
  rfl
theorem livA_b {text : List Int} {H : Int → Nat} {p : Nat} (h : hB (dOp (nth text p)) = true) : (livA text H p).testBit (dB (nth text p)).toNat = true := by
  unfold livA insN rdN
  rw [Nat.testBit_or, Nat.testBit_or, bit_self h, Bool.or_true]
  rfl
theorem livA_s {text : List Int} {H : Int → Nat} {p : Nat} (hl : H (p : Int) < 65536) {r : Nat} (h : (H (p : Int)).testBit r = true) : (hD (dOp (nth text p)) = true ∧ r = (dD (nth text p)).toNat) ∨ ((dOp (nth text p) = 17 ∨ dOp (nth text p) = 18) ∧ r = 15) ∨ (livA text H p).testBit r = true := by
  cases hw : (wrN (nth text p)).testBit r with
  | true =>
    unfold wrN at hw
    split at hw
    · rename_i hc
      refine .inr (.inl ⟨hc, ?_⟩)
      rw [show 32768 = 2 ^ 15 from rfl, Nat.testBit_two_pow, decide_eq_true_eq] at hw
      exact hw.symm
    · exact .inl (bit_only hw)
  | false =>
    refine .inr (.inr ?_)
    unfold livA insN
    rw [Nat.testBit_or, lessN_bit (wrN_lt _), h, hw]
    have hr : r < 16 := by
      by_cases c : r < 16
      · exact c
      · rw [Nat.testBit_lt_two_pow (Nat.lt_of_lt_of_le hl (show 2 ^ 16 ≤ 2 ^ r from Nat.pow_le_pow_right (by decide) (by omega)))] at h
        cases h
    simp [hr]
theorem step_run {m : Mach} (h : m.status = 0) : stepM m = if (doM m).err = 0 then hopM (doM m).m (doM m).to (m.steps + 1) else endM m (doM m).err := by unfold stepM; rw [if_pos h]
theorem step_both {text text' : List Int} {ml : Nat} {ent r : Int} {q : Nat} {H : Int → Nat} {m k : Mach} (hM : MayI text ml ent) (hO : Oth text text' q r) (hH : BhI text ent H) (hd : (H (q : Int)).testBit r.toNat = false) (h : Rl text text' ent q H m k) :
    (stepM k).status = (stepM m).status ∧ Sim q 0 (stepM m) (stepM k) ∧ ((stepM m).status = 0 → (m.pc ≠ q ∧ Rl text text' ent q H (stepM m) (stepM k)) ∨ (m.pc = q ∧ (stepM m).pc = q + 1 ∧ (stepM k).pc = q + 1 ∧ (stepM (stepM k)).status = 0 ∧ Rl text text' ent q H (stepM m) (stepM (stepM k)))) := by
  obtain ⟨F, G, hL, hB⟩ := hH
  have hGl := lst_lt hL
  have hpc := h.go.pc
  have htx := h.go.same
  have hrun := h.go.run
  have krun : k.status = 0 := by rw [h.sim.status]; exact hrun
  have kpc : (k.pc : Int) = shP q (m.pc : Int) := by rw [h.pc]; exact shN_cast q m.pc
  have kin : k.pc < k.text.length := by rw [h.txt, hO.len, h.pc]; unfold shN; split <;> omega
  have tw := hO.old m.pc hpc
  rw [← h.pc, ← h.txt] at tw
  obtain ⟨v0, v1⟩ := h.go.fine.words m.pc (by rw [htx]; exact hpc)
  rw [htx] at v0 v1
  have hdm : doM m = deedM m (dOp (nth text m.pc)) (dD (nth text m.pc)) (dA (nth text m.pc)) (dB (nth text m.pc)) (dN (nth text m.pc)) := by
    unfold doM
    rw [if_neg (by rw [htx]; omega), htx]
  have hdk : doM k = deedM k (dOp (nth text m.pc)) (dD (nth text m.pc)) (dA (nth text m.pc)) (dB (nth text m.pc)) (dN (nth k.text k.pc)) := by
    unfold doM
    rw [if_neg (by omega), tw.op, tw.d, tw.a, tw.b]
  obtain ⟨b, hb, b1, b2⟩ := in_blk (f := begF text ent) (n := text.length) (begin_zero text ent) m.pc hpc
  have hb : b < (blkL text ent).length := hb
  have b1 : rAt (blkL text ent) b ≤ (m.pc : Int) := b1
  have b2 : (m.pc : Int) < rSym (blkL text ent) b := b2
  have hob : ofB (blkL text ent) (m.pc : Int) = (b : Int) := of_in (f := begF text ent) (n := text.length) hb b1 b2
  have hHl : H (m.pc : Int) < 65536 := by rw [hB b hb m.pc b1 b2]; exact setB_lt _ _ (hGl b hb) _
  have B : Bth q (H (m.pc : Int)) m k (doM m) (doM k) := by
    rw [hdm, hdk]
    exact deed_both h.sim h.go.fine h.fine.sixteen (ins_in v0 v1) kpc (fun e => by rw [e]; exact hO.plain) livA_a livA_b (fun r hr => livA_s hHl hr) tw.n
  have hsm : stepM m = if (doM m).err = 0 then hopM (doM m).m (doM m).to (m.steps + 1) else endM m (doM m).err := by unfold stepM; rw [if_pos hrun]
  have hsk : stepM k = if (doM m).err = 0 then hopM (doM k).m (doM k).to (k.steps + 1) else endM k (doM m).err := by unfold stepM; rw [if_pos krun, B.err]
  by_cases he : (doM m).err = 0
  · rw [if_pos he] at hsm hsk
    have hs := B.sim he
    have hf := B.far he
    refine ⟨by rw [hsm, hsk]; exact hs.status, by rw [hsm, hsk]; exact ⟨fun r hr => (by rw [Nat.zero_testBit] at hr; cases hr), hs.mem, hs.mlen, hs.tape, hs.ports, hs.taken, hs.status⟩, fun hst => ?_⟩
    obtain ⟨hgo, hway⟩ := going_step hM h.go hst
    have hpm : (stepM m).pc = (doM m).to := by rw [hsm]; rfl
    have hpk : (stepM k).pc = (doM k).to := by rw [hsk]; rfl
    have hstat : (doM m).m.status = 0 := by rw [hsm] at hst; exact hst
    have hcase : ((stepM m).pc = m.pc + 1 ∧ ((stepM m).pc : Int) < rSym (blkL text ent) b) ∨ rSym (blkL text ent) b = (m.pc : Int) + 1 := by
      by_cases c : rSym (blkL text ent) b = (m.pc : Int) + 1
      · exact .inr c
      · refine .inl ?_
        have hne : endsB (dOp (nth text m.pc)) = false := by
          cases x : endsB (dOp (nth text m.pc)) with
          | false => rfl
          | true => exact absurd (blk_ends hb b1 b2 x) c
        have hn2 : ¬ (dOp (nth text m.pc) = 15 ∨ dOp (nth text m.pc) = 16 ∨ dOp (nth text m.pc) = 17 ∨ dOp (nth text m.pc) = 18 ∨ dOp (nth text m.pc) = 19) := by
          unfold endsB at hne
          rw [decide_eq_false_iff_not] at hne
          omega
        have hd2 := deed_to (m := m) (op := dOp (nth text m.pc)) (d := dD (nth text m.pc)) (a := dA (nth text m.pc)) (b := dB (nth text m.pc)) (n := dN (nth text m.pc)) (by rw [← hdm]; exact he) (by rw [← hdm]; exact hstat)
        rw [← hdm] at hd2
        rcases hd2 with ⟨_, x⟩ | ⟨x, _⟩ | ⟨x, _⟩ | ⟨x, _⟩
        · rw [hpm, x]; exact ⟨rfl, by omega⟩
        · exact absurd (by omega) hn2
        · exact absurd (by omega) hn2
        · exact absurd (by omega) hn2
    have hsub : SubN (livA text H (stepM m).pc) (H (m.pc : Int)) := live_way hL hB hGl hb b1 b2 (fun x => by
      rcases hcase with y | y
      · rcases x with x | x
        · exact absurd (by omega) x
        · exact absurd y.2 x
      · exact y) (hway b hb hob)
    have hsim2 : Sim q (livA text H (stepM m).pc) (stepM m) (stepM k) := by
      have h2 := hs.less hsub
      rw [hsm] at h2 ⊢
      rw [hsk]
      exact ⟨h2.regs, h2.mem, h2.mlen, h2.tape, h2.ports, h2.taken, h2.status⟩
    have hkt : (stepM k).text = text' := by
      have := do_kept h.fine (by rw [B.err]; exact he)
      rw [hsk]
      exact this.text.trans h.txt
    by_cases hq : m.pc = q
    · refine .inr ⟨hq, ?_⟩
      rcases hf with ⟨f1, f2⟩ | ⟨f1, _⟩
      · have e1 : (stepM m).pc = q + 1 := by rw [hpm, f1, hq]
        have e2 : (stepM k).pc = q + 1 := by
          rw [hpk, f2, h.pc, hq]
          unfold shN
          rw [if_neg (by omega)]
        have kst : (stepM k).status = 0 := by rw [hsim2.status]; exact hst
        have kdo : doM (stepM k) = putD (stepM k) r (dN (nth text' (q + 1)), false) := by
          unfold doM
          rw [if_neg (by rw [hkt, hO.len, e2]; have := hO.qlt; omega), hkt, e2, hO.op, hO.d]
          rfl
        have ks : stepM (stepM k) = hopM (putM (stepM k) r (dN (nth text' (q + 1)), false)) (q + 1 + 1) ((stepM k).steps + 1) := by
          rw [step_run kst, kdo]
          show hopM (putM (stepM k) r _) ((stepM k).pc + 1) _ = _
          rw [e2]
        refine ⟨e1, e2, by rw [ks]; exact kst, hgo, fine_step (fine_step h.fine), by rw [ks]; exact hkt, by rw [ks, e1]; show q + 1 + 1 = shN q (q + 1); unfold shN; rw [if_pos (by omega)], ?_⟩
        rw [ks]
        refine ⟨fun j hj => ?_, hsim2.mem, hsim2.mlen, hsim2.tape, hsim2.ports, hsim2.taken, hsim2.status⟩
        have hne : r.toNat ≠ j := fun e => by
          have := hsub j hj
          rw [hq, ← e, hd] at this
          cases this
        show ((stepM k).regs.set r.toNat _).getD j (0, false) = _
        rw [List.getD_eq_getElem?_getD, List.getElem?_set_ne hne, ← List.getD_eq_getElem?_getD]
        exact hsim2.regs j hj
      · exact absurd hq f1
    · refine .inl ⟨hq, hgo, fine_step h.fine, hkt, ?_, hsim2⟩
      rw [hpk, hpm]
      rcases hf with ⟨f1, f2⟩ | ⟨_, f2⟩
      · rw [f1, f2, h.pc]
        unfold shN
        split <;> split <;> omega
      · have := shN_cast q (doM m).to
        omega
  · rw [if_neg he] at hsm hsk
    refine ⟨by rw [hsm, hsk]; rfl, by rw [hsm, hsk]; exact ⟨fun r hr => (by rw [Nat.zero_testBit] at hr; cases hr), h.sim.mem, h.sim.mlen, h.sim.tape, h.sim.ports, h.sim.taken, rfl⟩, fun hst => ?_⟩
    rw [hsm] at hst
    exact absurd hst he



end Go.Proofs.YtfnicgihpelhhaaGreat

namespace Go.Proofs.YtfnicgihpelhhaaGreat
open Go.RowKit

/-- A word, its target moved. -/
def mvV (q : Nat) (v : Int) : Int := if (isT v && decide ((q : Int) < tgV v)) = true then aimV v (tgV v + 1) else v
theorem tgV_is {v : Int} (h : isT v = true) : tgV v = dN v := by unfold tgV; rw [if_pos h]
theorem mv_twn {q : Nat} {v : Int} (h0 : 0 ≤ v) (ht : isT v = true → tgV v < 16383) : Twn q v (mvV q v) := by
  unfold mvV
  by_cases hT : isT v = true
  · have hh := isT_ins hT
    have hp := tg_pos hT
    have e := tgV_is hT
    by_cases hq : (q : Int) < tgV v
    · have hr : 0 ≤ tgV v + 1 ∧ tgV v + 1 < 16384 := by have := ht hT; omega
      rw [if_pos (by rw [hT, decide_eq_true hq]; rfl), aim_is hT hr]
      have hE := aim_ok hT hr
      unfold aimE at hE
      rw [hT, decide_eq_true hr] at hE
      have hE : encE (dOp v) (dD v) (dA v) (dB v) (tgV v + 1) = 0 := by simpa using hE
      obtain ⟨e1, e2, e3, e4, e5⟩ := dec_enc hE
      refine ⟨e1, e2, e3, e4, ?_⟩
      rw [e5, if_pos hh.2.1, ← e]
      unfold shP
      rw [if_pos hq]
    · rw [if_neg (by rw [hT, decide_eq_false hq]; decide)]
      refine ⟨rfl, rfl, rfl, rfl, ?_⟩
      rw [if_pos hh.2.1, ← e]
      unfold shP
      rw [if_neg hq]
  · rw [if_neg (by simp [hT])]
    refine ⟨rfl, rfl, rfl, rfl, ?_⟩
    by_cases hP' : hP (dOp v) = true
    · exfalso
      cases hi : isIns v with
      | true => exact hT (by unfold isT; rw [hP', decide_eq_true (dOp_yes h0 hi)]; rfl)
      | false => rw [dOp_no hi] at hP'; revert hP'; decide
    · rw [if_neg hP']
/-- The other text, as far as k words of the first. -/
def othL (text : List Int) (q : Nat) (wn : Int) : Nat → List Int
  | 0 => []
  | k + 1 => othL text q wn k ++ [mvV q (nth text k)] ++ (if k = q then [wn] else [])
theorem othL_len (text : List Int) (q : Nat) (wn : Int) : ∀ k, (othL text q wn k).length = if q < k then k + 1 else k
  | 0 => by rw [if_neg (by omega)]; rfl
  | k + 1 => by
    show (othL text q wn k ++ [mvV q (nth text k)] ++ (if k = q then [wn] else [])).length = _
    rw [List.length_append, List.length_append, othL_len text q wn k]
    by_cases e : k = q
    · rw [if_pos e, if_neg (by omega), if_pos (by omega)]; rfl
    · rw [if_neg e]
      by_cases h : q < k
      · rw [if_pos h, if_pos (by omega)]; rfl
      · rw [if_neg h, if_neg (by omega)]; rfl
theorem othL_old (text : List Int) (q : Nat) (wn : Int) {i : Nat} : ∀ {k : Nat}, i < k → nth (othL text q wn k) (shN q i) = mvV q (nth text i)
  | 0, h => by omega
  | k + 1, h => by
    show nth (othL text q wn k ++ [mvV q (nth text k)] ++ (if k = q then [wn] else [])) (shN q i) = _
    have hl := othL_len text q wn k
    by_cases e : i = k
    · subst e
      have hs : shN q i = (othL text q wn i).length := by rw [hl]; rfl
      rw [List.append_assoc, hs, show (othL text q wn i).length = (othL text q wn i).length + 0 from rfl, nth_right]
      rfl
    · have hb : shN q i < (othL text q wn k).length := by rw [hl]; unfold shN; split <;> split <;> omega
      rw [List.append_assoc, nth_left hb]
      exact othL_old text q wn (by omega)
theorem othL_new (text : List Int) (q : Nat) (wn : Int) : ∀ {k : Nat}, q < k → nth (othL text q wn k) (q + 1) = wn
  | 0, h => by omega
  | k + 1, h => by
    show nth (othL text q wn k ++ [mvV q (nth text k)] ++ (if k = q then [wn] else [])) (q + 1) = _
    have hl := othL_len text q wn k
    by_cases e : k = q
    · subst e
      rw [if_pos rfl]
      rw [if_neg (by omega)] at hl
      have : k + 1 = (othL text k wn k ++ [mvV k (nth text k)]).length + 0 := by rw [List.length_append, hl]; rfl
      rw [this, nth_right]
      rfl
    · rw [if_pos (by omega)] at hl
      rw [List.append_assoc, nth_left (by omega)]
      exact othL_new text q wn (by omega)
theorem oth_is {text : List Int} {ml : Nat} {ent r wn : Int} {q : Nat} (hM : MayI text ml ent) (hR : ∀ i, i < text.length → 0 ≤ nth text i ∧ nth text i < 4294967296) (hl : text.length ≤ 500) (hq : q + 1 < text.length) (he : endsB (dOp (nth text q)) = false) (h1 : dOp wn = 1) (h2 : dD wn = r) : Oth text (othL text q wn text.length) q r := by
  refine ⟨by rw [othL_len, if_pos (by omega)], hq, fun i hi => ?_, by rw [othL_new text q wn (by omega)]; exact h1, by rw [othL_new text q wn (by omega)]; exact h2, he⟩
  rw [othL_old text q wn hi]
  exact mv_twn (hR i hi).1 (fun hT => by have := far_in (hM.far i hi) hT; omega)
theorem mv_range {q : Nat} {v : Int} (h0 : 0 ≤ v) (h1 : v < 4294967296) : 0 ≤ mvV q v ∧ mvV q v < 4294967296 := by
  unfold mvV
  split
  · exact aim_range _ _
  · exact ⟨h0, h1⟩
theorem oth_place {text : List Int} {q : Nat} {wn : Int} (hq : q + 1 < text.length) {j : Nat} (hj : j < (othL text q wn text.length).length) : j = q + 1 ∨ ∃ i, i < text.length ∧ j = shN q i := by
  rw [othL_len, if_pos (by omega)] at hj
  by_cases e : j = q + 1
  · exact .inl e
  · refine .inr ?_
    by_cases h : j ≤ q
    · exact ⟨j, by omega, by unfold shN; rw [if_neg (by omega)]⟩
    · exact ⟨j - 1, by omega, by unfold shN; rw [if_pos (by omega)]; omega⟩
theorem oth_range {text : List Int} {q : Nat} {wn : Int} (hR : ∀ i, i < text.length → 0 ≤ nth text i ∧ nth text i < 4294967296) (hq : q + 1 < text.length) (hw : 0 ≤ wn ∧ wn < 4294967296) : ∀ j, j < (othL text q wn text.length).length → 0 ≤ nth (othL text q wn text.length) j ∧ nth (othL text q wn text.length) j < 4294967296 := fun j hj => by
  rcases oth_place hq hj with e | ⟨i, hi, e⟩
  · rw [e, othL_new text q wn (by omega)]; exact hw
  · rw [e, othL_old text q wn hi]; exact mv_range (hR i hi).1 (hR i hi).2
/-- The other one may be, too. -/
theorem oth_may {text : List Int} {ml : Nat} {ent r wn : Int} {q : Nat} (hM : MayI text ml ent) (hl : text.length ≤ 500) (hO : Oth text (othL text q wn text.length) q r) : MayI (othL text q wn text.length) ml (shP q ent) := by
  have hq := hO.qlt
  have hlen := hO.len
  have p := hM.past
  have e0 := p.ent0
  have e1 := p.ent1
  have hs : 0 ≤ shP q ent ∧ shP q ent < (text.length : Int) + 1 := by unfold shP; split <;> omega
  refine ⟨⟨by omega, by omega, p.mem, hs.1, by rw [hlen]; push_cast; omega⟩, fun j hj => ?_, ?_⟩
  · cases hf : farT (othL text q wn text.length) j with
    | false => rfl
    | true =>
      exfalso
      unfold farT at hf
      rw [Bool.and_eq_true, decide_eq_true_eq] at hf
      obtain ⟨hT, hfar⟩ := hf
      rw [hlen] at hfar
      have hTg := tgV_is hT
      unfold isT at hT
      rw [Bool.and_eq_true, decide_eq_true_eq] at hT
      rcases oth_place hq hj with e | ⟨i, hi, e⟩
      · rw [e, hO.op] at hT
        exact absurd hT.2 (by decide)
      · have tw := hO.old i hi
        rw [← e] at tw
        rw [tw.op] at hT
        have hTi : isT (nth text i) = true := by unfold isT; rw [hT.2, decide_eq_true hT.1]; rfl
        have h4 := far_in (hM.far i hi) hTi
        rw [tgV_is hTi] at h4
        rw [hTg, tw.n, if_pos hT.2] at hfar
        unfold shP at hfar
        split at hfar <;> push_cast at hfar <;> omega
  · have tw := hO.old (text.length - 1) (by omega)
    have hs : shN q (text.length - 1) = (othL text q wn text.length).length - 1 := by rw [hlen]; unfold shN; rw [if_pos (by omega)]; omega
    rw [hs] at tw
    have := hM.last
    unfold lastOK at this ⊢
    rw [tw.op]
    exact this
theorem rl_new {text tape mem : List Int} {ml : Nat} {ent wn : Int} {q : Nat} {H : Int → Nat} (hM : MayI text ml ent) (hf : Fine (newM text tape mem ent)) (hk : Fine (newM (othL text q wn text.length) tape mem (shP q ent))) : Rl text (othL text q wn text.length) ent q H (newM text tape mem ent) (newM (othL text q wn text.length) tape mem (shP q ent)) := by
  refine ⟨going_new hM hf, hk, rfl, ?_, ?_⟩
  · have := shN_cast q ent.toNat
    have e0 := hM.past.ent0
    rw [show ((ent.toNat : Nat) : Int) = ent by omega] at this
    show (shP q ent).toNat = shN q ent.toNat
    omega
  · refine ⟨fun r _ => ?_, fun j => ?_, rfl, rfl, rfl, rfl, rfl⟩
    · show (List.replicate 16 ((0, false) : Wd)).getD r (0, false) = shW q ((List.replicate 16 ((0, false) : Wd)).getD r (0, false))
      have : (List.replicate 16 ((0, false) : Wd)).getD r (0, false) = (0, false) := by
        rw [List.getD_eq_getElem?_getD, List.getElem?_replicate]
        split <;> rfl
      rw [this]
      rfl
    · show (mem.map (fun v => ((v, false) : Wd))).getD j (0, false) = shW q ((mem.map (fun v => ((v, false) : Wd))).getD j (0, false))
      rw [List.getD_eq_getElem?_getD, List.getElem?_map]
      cases mem[j]? with
      | none => rfl
      | some v => rfl
/-- What both tell at the end. -/
theorem sim_words {q S : Nat} {m k : Mach} (h : Sim q S m k) (j : Nat) : wC k.mem j = wC m.mem j ∧ wV k.mem j = (if wC m.mem j = true ∧ (q : Int) < wV m.mem j then wV m.mem j + 1 else wV m.mem j) := by
  have e := h.mem j
  refine ⟨?_, ?_⟩
  · show (k.mem.getD j (0, false)).2 = _
    rw [e]
    rfl
  · show (k.mem.getD j (0, false)).1 = _
    rw [e]
    show (if wC m.mem j = true then shP q (wV m.mem j) else wV m.mem j) = _
    unfold shP
    by_cases c : wC m.mem j = true
    · rw [if_pos c]
      by_cases d : (q : Int) < wV m.mem j
      · rw [if_pos d, if_pos ⟨c, d⟩]
      · rw [if_neg d, if_neg fun x => d x.2]
    · rw [if_neg c, if_neg fun x => c x.1]
/-- One round of both: the one that was put in is done besides. -/
def rndK (q : Nat) (m k : Mach) : Mach := if (stepM m).status = 0 ∧ (stepM k).status = 0 ∧ (stepM k).pc = q + 1 ∧ (stepM m).pc = q + 1 then stepM (stepM k) else stepM k
theorem round_both {text text' : List Int} {ml : Nat} {ent r : Int} {q : Nat} {H : Int → Nat} {m k : Mach} (hM : MayI text ml ent) (hO : Oth text text' q r) (hH : BhI text ent H) (hd : (H (q : Int)).testBit r.toNat = false) (h : Rl text text' ent q H m k) :
    (rndK q m k).status = (stepM m).status ∧ (stepM k).status = (stepM m).status ∧ Sim q 0 (stepM m) (rndK q m k) ∧ ((stepM m).status = 0 → Rl text text' ent q H (stepM m) (rndK q m k)) := by
  obtain ⟨h1, h2, h3⟩ := step_both hM hO hH hd h
  unfold rndK
  by_cases hs : (stepM m).status = 0
  · rcases h3 hs with ⟨hq, hr⟩ | ⟨_, e1, e2, e3, hr⟩
    · have hn : ¬ ((stepM m).status = 0 ∧ (stepM k).status = 0 ∧ (stepM k).pc = q + 1 ∧ (stepM m).pc = q + 1) := fun x => by
        have := hr.pc
        rw [x.2.2.1, x.2.2.2] at this
        unfold shN at this
        rw [if_pos (by omega)] at this
        omega
      rw [if_neg hn]
      exact ⟨h1, h1, h2, fun _ => hr⟩
    · rw [if_pos ⟨hs, by rw [h1]; exact hs, e2, e1⟩]
      exact ⟨by rw [e3, hs], h1, hr.sim.less fun j hj => (by rw [Nat.zero_testBit] at hj; cases hj), fun _ => hr⟩
  · rw [if_neg fun x => hs x.1]
    exact ⟨h1, h1, h2, fun x => absurd x hs⟩



end Go.Proofs.YtfnicgihpelhhaaGreat

namespace Go.Proofs.YtfnicgihpelhhaaGreat
open Go.RowKit

theorem newAtK {w : World} {o : Obj} {n : Nat} (h : n = w.heap.size) : (w.alloc o).heap[n]? = some o := by subst h; exact heap_alloc_new w o
theorem Mks.notrow {w : World} {b n : Nat} {f : Int → Bool} (h : Mks w b n f) {base : Nat} {e : TypeId} {sz : Nat} {v : Value} {m : Nat} {xs : List Value} (hr : w.ownsRow base e sz v m xs) : some b ≠ v.ownBlock := by
  obtain ⟨D, ⟨es, clock, h1, h2⟩, h3⟩ := h
  rcases hr.2 with ⟨rfl, _⟩ | ⟨g, cap, cur, rfl, _, hg2, _⟩
  · intro e; cases e
  · intro e
    cases e
    rw [h1] at hg2
    cases hg2



end Go.Proofs.YtfnicgihpelhhaaGreat

namespace Go.Proofs.YtfnicgihpelhhaaGreat
open Go.RowKit

/-- The other image in the block g: its text so far a row of its own behind g. -/
structure Ot (Y wr : World) (g : Nat) (O : Option Addr) (c : Nat) (e : Int) (B2 : Option Addr) (ml m2 : Nat) (l : List Int) : Prop where
  box : wr.heap[g]? = some (.cells #[.slice O l.length c, .int .i64 e, .slice B2 ml m2] 25 (0, 0))
  row : wr.ownsRow (g + 1) 45 1 (.slice O l.length c) l.length (iVals .u32 l)
  but : But g Y wr
  yz : Y.heap.size = g + 1
section
variable {Y wr w1 : World} {g : Nat} {O O1 : Option Addr} {c k1 : Nat} {e : Int} {B2 : Option Addr} {ml m2 : Nat} {l : List Int}
theorem Ot.keep (h : Ot Y wr g O c e B2 ml m2 l) (hb : Below wr.heap.size wr w1) : Ot Y w1 g O c e B2 ml m2 l :=
  ⟨lb_box h.box hb, row_keep h.row hb, h.but.on hb, h.yz⟩
theorem Ot.cells (h : Ot Y wr g O c e B2 ml m2 l) : wr.cell? ⟨g, 0, none⟩ = some (.slice O l.length c) ∧ wr.cell? ⟨g, 1, none⟩ = some (.int .i64 e) ∧ wr.cell? ⟨g, 2, none⟩ = some (.slice B2 ml m2) := zbox3_cell h.box
theorem Ot.same (h : Ot Y wr g O c e B2 ml m2 l) {x : Int} (hg : (wr.alloc (.cells #[.int .u32 x] 45)).grownBy w1 (Value.slice O l.length c).ownBlock) : w1.heap[g]? = some (.cells #[.slice O l.length c, .int .i64 e, .slice B2 ml m2] 25 (0, 0)) := by
  have hlt := (Array.getElem?_eq_some_iff.1 h.box).1
  rw [hg.block g (by simp; omega) (fun ee => by have := (h.row.lt g ee.symm).1; omega)]
  exact old_at h.box
theorem Ot.one (h : Ot Y wr g O c e B2 ml m2 l) {x : Int} (hg : (wr.alloc (.cells #[.int .u32 x] 45)).grownBy w1 (Value.slice O l.length c).ownBlock) : w1.cell? ⟨g, 0, none⟩ = some (.slice O l.length c) ∧ w1.frozen? ⟨g, 0, none⟩ = false := ⟨(zbox3_cell (h.same hg)).1, box_fro (h.same hg) 0⟩
theorem Ot.app (h : Ot Y wr g O c e B2 ml m2 l) {x : Int} (ho : w1.ownsRow (g + 1) 45 1 (.slice O1 (l.length + 1) k1) (l.length + 1) (iVals .u32 l ++ [.int .u32 x])) (hg : (wr.alloc (.cells #[.int .u32 x] 45)).grownBy w1 (Value.slice O l.length c).ownBlock) :
    Ot Y (w1.setCell ⟨g, 0, none⟩ (.slice O1 (l.length + 1) k1)) g O1 k1 e B2 ml m2 (l ++ [x]) := by
  have hb := h.same hg
  have hln : (l ++ [x]).length = l.length + 1 := by simp
  refine ⟨?_, ?_, ?_, h.yz⟩
  · rw [hln, box_set hb]; rfl
  · rw [hln, iVals_snoc]
    exact ownsRow_setCell_other ho (fun ee => by have := (ho.lt g ee).1; omega) _
  · refine But.set ?_ _ _
    have h1 : But g Y (wr.alloc (.cells #[.int .u32 x] 45)) := h.but.on (lb_alloc (Below.refl _ _) _)
    refine ⟨hg.os.trans h1.1, hg.tape.trans h1.2.1, hg.output.trans h1.2.2.1, Nat.le_trans h1.2.2.2.1 hg.size, fun k hk hn => ?_⟩
    rw [hg.block k (Nat.lt_of_lt_of_le hk h1.2.2.2.1) (fun ee => by have := (h.row.lt k ee.symm).1; have := h.yz; omega)]
    exact h1.2.2.2.2 k hk hn
theorem Ot.room (h : Ot Y wr g O c e B2 ml m2 l) : g + 1 ≤ wr.heap.size := by
  have := (Array.getElem?_eq_some_iff.1 h.box).1
  omega
theorem Ot.entry (h : Ot Y wr g O c e B2 ml m2 l) (e' : Int) : Ot Y (wr.setCell ⟨g, 1, none⟩ (.int .i64 e')) g O c e' B2 ml m2 l := by
  refine ⟨by rw [box_set h.box]; rfl, ownsRow_setCell_other h.row (fun ee => by have := (h.row.lt g ee).1; omega) _, h.but.set _ _, h.yz⟩
theorem one_oneW {x : Int} : ∀ u ∈ [Value.int .u32 x], u.oneCell' = true := fun u hu => by
  simp only [List.mem_cons, List.not_mem_nil, or_false] at hu
  rw [hu]; rfl
end

end Go.Proofs.YtfnicgihpelhhaaGreat
