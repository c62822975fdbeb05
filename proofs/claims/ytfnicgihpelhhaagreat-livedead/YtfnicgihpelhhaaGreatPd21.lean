/-
  A machine that runs goes along the edges: plain. Two machines side by side, the one with a word more: what each instruction does to both; no Go in sight. What is live along the way of a machine; no Go in sight. One step of both machines, the one with a word more; no Go in sight.
-/
import Derived.Test.YtfnicgihpelhhaaGreatProg
import Derived.WalkKit
import Derived.WalkSpells
import Derived.WalkLawsBesides
import Derived.RowKit3
import Derived.Below
import Derived.Deep.QuietTactic
import Derived.BigQuiet
import Derived.WalkSmall
import Derived.Laws.Rows
import Derived.Deep.AppendLies
import Derived.Deep.DeepCutAuto
import Derived.Deep.RegionHeld3
import Derived.Great.BuildSlice
import Derived.Laws.BitsAllLaws
import Derived.Laws.CopyOwn
import Derived.Laws.Tables
import Derived.Test.YtfnicgihpelhhaaGreatPd20
namespace Go.Proofs.YtfnicgihpelhhaaGreat
open Go.RowKit

def knG (text : List Int) (x : Int) : Prop := (takF text x || sitF text x) = true
/-- A machine on its way through the blocks. -/
structure Going (text : List Int) (ent : Int) (m : Mach) : Prop where
  fine : Fine m
  same : m.text = text
  run : m.status = 0
  kn : Kn (knG text) m
  pc : m.pc < text.length
  at_ : ∃ b : Nat, b < (blkL text ent).length ∧ ofB (blkL text ent) (m.pc : Int) = (b : Int) ∧ Rch (edgT text ent (blkL text ent).length) (ofB (blkL text ent) ent) (b : Int)
theorem isT_of {v : Int} (h : dOp v = 15 ∨ dOp v = 16 ∨ dOp v = 17 ∨ dOp v = 20) : isT v = true ∧ tgV v = dN v := by
  have : isT v = true := by
    unfold isT hP
    rw [Bool.and_eq_true, decide_eq_true_eq, decide_eq_true_eq]
    omega
  exact ⟨this, by unfold tgV; rw [if_pos this]⟩
theorem lab_place {text : List Int} {ml : Nat} {ent : Int} (hM : MayI text ml ent) {i : Nat} (hi : i < text.length) (h : dOp (nth text i) = 15 ∨ dOp (nth text i) = 16 ∨ dOp (nth text i) = 17 ∨ dOp (nth text i) = 20) : dN (nth text i) ∈ plcT (begF text ent) text.length := by
  obtain ⟨h1, h2⟩ := isT_of h
  have h3 := tg_pos h1
  have h4 := far_in (hM.far i hi) h1
  rw [h2] at h3 h4
  refine plcT_mem.2 ⟨h3.1, h4, beg_lab (lab_iff.2 (.inr (anyF_iff.2 ⟨i, hi, ?_⟩)))⟩
  rw [gLab_yes h1, h2]
theorem kn_place {text : List Int} {ml : Nat} {ent : Int} (hM : MayI text ml ent) {x : Int} (h : knG text x) : x ∈ plcT (begF text ent) text.length := by
  unfold knG at h
  rw [Bool.or_eq_true] at h
  rcases h with h | h
  · have h' : anyF (gTak text) text.length x = true := by simpa [takF, addK, noF] using h
    obtain ⟨i, hi, e⟩ := anyF_iff.1 h'
    unfold gTak at e
    split at e
    · rename_i h20
      have h20 : dOp (nth text i) = 20 := by simpa using h20
      obtain rfl := Option.some.inj e
      exact lab_place hM hi (by omega)
    · cases e
  · have h' : anyF (gSit text) text.length x = true := by simpa [sitF, addK, noF] using h
    obtain ⟨i, hi, e⟩ := anyF_iff.1 h'
    unfold gSit at e
    split at e
    · rename_i h17
      obtain rfl := Option.some.inj e
      have := sit_in hM hi h17
      exact sit_beg (plcT_mem.2 ⟨by omega, by omega, h⟩)
    · cases e
theorem kn_site {text : List Int} {i : Nat} (hi : i < text.length) (h : dOp (nth text i) = 17 ∨ dOp (nth text i) = 18) : knG text ((i : Int) + 1) := by
  unfold knG
  rw [Bool.or_eq_true]
  refine .inr ?_
  have h' : anyF (gSit text) text.length ((i : Int) + 1) = true := anyF_iff.2 ⟨i, hi, by unfold gSit; rw [if_pos (by simpa using h)]⟩
  simpa [sitF, addK, noF] using h'
theorem kn_taken {text : List Int} {i : Nat} (hi : i < text.length) (h : dOp (nth text i) = 20) : knG text (dN (nth text i)) := by
  unfold knG
  rw [Bool.or_eq_true]
  refine .inl ?_
  have h' : anyF (gTak text) text.length (dN (nth text i)) = true := anyF_iff.2 ⟨i, hi, by unfold gTak; rw [if_pos (by simpa using h)]⟩
  simpa [takF, addK, noF] using h'
theorem edge_in {text : List Int} {ent : Int} {b k : Nat} (hb : b < (blkL text ent).length) (hk : k < (blkL text ent).length) (h : edgB text ent b k = true) : (k : Int) ∈ rowZ (edgT text ent (blkL text ent).length) b := by
  rw [edg_row hb, plcT_mem]
  refine ⟨by omega, by omega, ?_⟩
  unfold edgR
  rw [show ((k : Int)).toNat = k by omega]
  exact h
section
variable {text : List Int} {ml : Nat} {ent : Int} {b p : Nat}
/-- Behind an instruction that ends a block the block ends. -/
theorem blk_ends (hb : b < (blkL text ent).length) (h1 : rAt (blkL text ent) b ≤ (p : Int)) (h2 : (p : Int) < rSym (blkL text ent) b) (he : endsB (dOp (nth text p)) = true) : rSym (blkL text ent) b = (p : Int) + 1 := by
  have hin := blk_in hb
  by_cases h3 : (p : Int) + 1 < rSym (blkL text ent) b
  · have h4 := no_beg hb (p := (p : Int) + 1) (by omega) h3
    rw [beg_end (by omega) he] at h4
    cases h4
  · omega
theorem blk_lastW (e : rSym (blkL text ent) b = (p : Int) + 1) : lastW text ent b = nth text p := by
  unfold lastW
  rw [e, show ((p : Int) + 1 - 1).toNat = p by omega]
/-- The block behind. -/
theorem blk_after (hb : b < (blkL text ent).length) (e : rSym (blkL text ent) b = (p : Int) + 1) (hp : p + 1 < text.length) : b + 1 < (blkL text ent).length ∧ rAt (blkL text ent) (b + 1) = (p : Int) + 1 := by
  have hb' : b < (plcT (begF text ent) text.length).length := by rw [← blkN_len]; exact hb
  by_cases h4 : b + 1 < (plcT (begF text ent) text.length).length
  · have h5 := blk_next (f := begF text ent) (n := text.length) h4
    exact ⟨by show b + 1 < (blkN (begF text ent) text.length).length; rw [blkN_len]; exact h4, by rw [← e]; exact h5.symm⟩
  · have h5 : rSym (blkL text ent) b = (text.length : Int) := blk_last (f := begF text ent) (n := text.length) (k := b) (by omega)
    omega
theorem not_last (hM : MayI text ml ent) (hp : p < text.length) (h : ¬ (dOp (nth text p) = 0 ∨ dOp (nth text p) = 15 ∨ dOp (nth text p) = 19 ∨ dOp (nth text p) = 21)) : p + 1 < text.length := by
  by_cases e : p + 1 = text.length
  · have hl := hM.last
    rw [show text.length - 1 = p by omega] at hl
    unfold lastOK at hl
    rw [decide_eq_true_eq] at hl
    exact absurd hl h
  · omega
/-- From a place to the next one that is a machine's. -/
def Way (text : List Int) (ent : Int) (b p q : Nat) : Prop := (q = p + 1 ∧ (q : Int) < rSym (blkL text ent) b) ∨ (∃ k : Nat, k < (blkL text ent).length ∧ ofB (blkL text ent) (q : Int) = (k : Int) ∧ rAt (blkL text ent) k = (q : Int) ∧ (k : Int) ∈ rowZ (edgT text ent (blkL text ent).length) b)
theorem way_next (hM : MayI text ml ent) (hb : b < (blkL text ent).length) (h2 : (p : Int) < rSym (blkL text ent) b) (hp : p < text.length) (hg : ∀ pl kn, goesF (dOp (nth text p)) (dN (nth text p)) true pl kn = true) (hn : ¬ (dOp (nth text p) = 0 ∨ dOp (nth text p) = 15 ∨ dOp (nth text p) = 19 ∨ dOp (nth text p) = 21)) : p + 1 < text.length ∧ Way text ent b p (p + 1) := by
  have h3 := not_last hM hp hn
  refine ⟨h3, ?_⟩
  by_cases h4 : ((p + 1 : Nat) : Int) < rSym (blkL text ent) b
  · exact .inl ⟨rfl, h4⟩
  · have e : rSym (blkL text ent) b = (p : Int) + 1 := by omega
    obtain ⟨h5, h6⟩ := blk_after hb e h3
    have hw := blk_in h5
    refine .inr ⟨b + 1, h5, ?_, by omega, edge_in hb h5 ?_⟩
    · exact of_in (f := begF text ent) (n := text.length) h5 (by show rAt (blkL text ent) (b + 1) ≤ _; omega) (by show _ < rSym (blkL text ent) (b + 1); omega)
    · unfold edgB
      rw [blk_lastW e, show (((b + 1 : Nat) : Int) == (b : Int) + 1) = true by rw [beq_iff_eq]; omega]
      exact hg _ _
theorem way_jump (hb : b < (blkL text ent).length) (h1 : rAt (blkL text ent) b ≤ (p : Int)) (h2 : (p : Int) < rSym (blkL text ent) b) {x : Int} (hx : x ∈ plcT (begF text ent) text.length) (he : endsB (dOp (nth text p)) = true) (hg : ∀ nx, goesF (dOp (nth text p)) (dN (nth text p)) nx x (takF text x || sitF text x) = true) : x.toNat < text.length ∧ Way text ent b p x.toNat := by
  have hxx := plcT_mem.1 hx
  obtain ⟨k, hk, e, e2⟩ := blk_begin (f := begF text ent) (n := text.length) hx
  have e3 := blk_ends hb h1 h2 he
  refine ⟨by omega, .inr ⟨k, hk, ?_, ?_, edge_in hb hk ?_⟩⟩
  · rw [show ((x.toNat : Nat) : Int) = x by omega]; exact e
  · rw [show ((x.toNat : Nat) : Int) = x by omega]; exact e2
  · unfold edgB
    have e2 : rAt (blkL text ent) k = x := e2
    rw [blk_lastW e3, e2]
    exact hg _
end
theorem goes_plain {op n pl : Int} {kn : Bool} (h : endsB op = false) : goesF op n true pl kn = true := by
  unfold endsB at h
  rw [decide_eq_false_iff_not] at h
  unfold goesF
  rw [if_neg (by omega), if_neg (by omega), if_neg (by omega), if_neg (by omega)]
theorem goes_zero {n pl : Int} {kn : Bool} : goesF 16 n true pl kn = true := by
  unfold goesF
  simp
theorem goes_place {op n : Int} {nx kn : Bool} (h : op = 15 ∨ op = 16 ∨ op = 17) : goesF op n nx n kn = true := by
  rcases h with rfl | rfl | rfl <;> simp [goesF]
theorem goes_known {op n pl : Int} {nx kn : Bool} (h : op = 18 ∨ op = 19) (hk : kn = true) : goesF op n nx pl kn = true := by
  rcases h with rfl | rfl <;> simp [goesF, hk]
theorem going_step {text : List Int} {ml : Nat} {ent : Int} {m : Mach} (hM : MayI text ml ent) (h : Going text ent m) (hs : (stepM m).status = 0) : Going text ent (stepM m) ∧ ∀ b : Nat, b < (blkL text ent).length → ofB (blkL text ent) (m.pc : Int) = (b : Int) → Way text ent b m.pc (stepM m).pc := by
  have hf := fine_step h.fine
  have hrun := h.run
  have hst : stepM m = if (doM m).err = 0 then hopM (doM m).m (doM m).to (m.steps + 1) else endM m (doM m).err := by unfold stepM; rw [if_pos hrun]
  have he : (doM m).err = 0 := by
    by_cases e : (doM m).err = 0
    · exact e
    · rw [hst, if_neg e] at hs; exact absurd hs e
  rw [if_pos he] at hst
  have hkept := do_kept h.fine he
  have htx := h.same
  have hpc := h.pc
  have hdo : doM m = deedM m (dOp (nth text m.pc)) (dD (nth text m.pc)) (dA (nth text m.pc)) (dB (nth text m.pc)) (dN (nth text m.pc)) := by
    unfold doM
    rw [if_neg (by rw [htx]; omega), htx]
  have hpc' : (stepM m).pc = (doM m).to := by rw [hst]; rfl
  have hkn : Kn (knG text) (stepM m) := by
    have hk : Kn (knG text) (doM m).m := by
      rw [hdo] at he ⊢
      exact deed_kn h.kn (fun e => kn_site hpc e) (fun e => kn_taken hpc e) he
    rw [hst]
    exact ⟨hk.regs, hk.mem⟩
  have hstat : (doM m).m.status = 0 := by rw [hst] at hs; exact hs
  obtain ⟨b, hb, b1, b2⟩ := in_blk (f := begF text ent) (n := text.length) (beg_zero text ent) m.pc hpc
  have hb : b < (blkL text ent).length := hb
  have b1 : rAt (blkL text ent) b ≤ (m.pc : Int) := b1
  have b2 : (m.pc : Int) < rSym (blkL text ent) b := b2
  have hob : ofB (blkL text ent) (m.pc : Int) = (b : Int) := of_in (f := begF text ent) (n := text.length) hb b1 b2
  have key : (doM m).to < text.length ∧ Way text ent b m.pc (doM m).to := by
    have hd := deed_to (m := m) (op := dOp (nth text m.pc)) (d := dD (nth text m.pc)) (a := dA (nth text m.pc)) (b := dB (nth text m.pc)) (n := dN (nth text m.pc)) (by rw [← hdo]; exact he) (by rw [← hdo]; exact hstat)
    rw [← hdo] at hd
    rcases hd with ⟨h1, h2⟩ | ⟨h1, h2⟩ | ⟨h1, h2⟩ | ⟨h1, k, h2, h3⟩
    · rw [h2]
      refine way_next hM hb b2 hpc (fun pl kn => goes_plain h1) ?_
      unfold endsB at h1
      rw [decide_eq_false_iff_not] at h1
      omega
    · rw [h2]
      refine way_jump hb b1 b2 (lab_place hM hpc (by omega)) ?_ (fun nx => goes_place h1)
      unfold endsB
      rw [decide_eq_true_eq]
      omega
    · rw [h2]
      refine way_next hM hb b2 hpc (fun pl kn => by rw [h1]; exact goes_zero) (by omega)
    · rw [h3]
      have hk := h.kn.regs k h2
      refine way_jump hb b1 b2 (kn_place hM hk) ?_ (fun nx => goes_known h1 hk)
      unfold endsB
      rw [decide_eq_true_eq]
      omega
  rw [← hpc'] at key
  refine ⟨⟨hf, by rw [hst]; exact hkept.text.trans htx, hs, hkn, key.1, ?_⟩, fun c hc ec => ?_⟩
  · obtain ⟨c, hc, ec, hr⟩ := h.at_
    have : b = c := by rw [hob] at ec; omega
    subst this
    rcases key.2 with ⟨e, hl⟩ | ⟨k, hk, ek, _, hm⟩
    · exact ⟨b, hb, of_in (f := begF text ent) (n := text.length) hb (by show rAt (blkL text ent) b ≤ _; omega) hl, hr⟩
    · exact ⟨k, hk, ek, .step hr (by omega) (by simpa using hm)⟩
  · have : b = c := by rw [hob] at ec; omega
    subst this
    exact key.2
theorem going_new {text tape mem : List Int} {ml : Nat} {ent : Int} (hM : MayI text ml ent) (hf : Fine (newM text tape mem ent)) : Going text ent (newM text tape mem ent) := by
  have h0 := hM.past.ent0
  have h1 := hM.past.ent1
  obtain ⟨k, hk, e⟩ := ent_blk h0 h1
  refine ⟨hf, rfl, rfl, ⟨?_, ?_⟩, by show ent.toNat < _; omega, k, hk, ?_, ?_⟩
  · intro j hj
    have := newM_regs j
    unfold wC at hj
    change ((List.replicate 16 ((0, false) : Wd)).getD j (0, false)).2 = true at hj
    simp only [List.getD, List.getElem?_replicate] at hj
    split at hj <;> simp at hj
  · intro j hj
    change wC (mem.map (fun v => ((v, false) : Wd))) j = true at hj
    unfold wC at hj
    simp only [List.getD, List.getElem?_map] at hj
    cases hq : mem[j]? <;> simp [hq] at hj
  · show ofB (blkL text ent) ((ent.toNat : Nat) : Int) = _
    rw [show ((ent.toNat : Nat) : Int) = ent by omega]; exact e
  · rw [e]; exact .base





end Go.Proofs.YtfnicgihpelhhaaGreat

namespace Go.Proofs.YtfnicgihpelhhaaGreat
open Go.RowKit

/-- A place of the one program, in the one that has a word more behind q. -/
def shP (q : Nat) (p : Int) : Int := if (q : Int) < p then p + 1 else p
theorem shP_inj {q : Nat} {x y : Int} : shP q x = shP q y ↔ x = y := by
  unfold shP
  constructor
  · intro h
    split at h <;> split at h <;> omega
  · intro h
    rw [h]
def shW (q : Nat) (x : Wd) : Wd := (if x.2 = true then shP q x.1 else x.1, x.2)
/-- Two machines that say the same but for registers that are dead. -/
structure Sim (q S : Nat) (m k : Mach) : Prop where
  regs : ∀ r : Nat, S.testBit r = true → k.regs.getD r (0, false) = shW q (m.regs.getD r (0, false))
  mem : ∀ j : Nat, k.mem.getD j (0, false) = shW q (m.mem.getD j (0, false))
  mlen : k.mem.length = m.mem.length
  tape : k.tape = m.tape
  ports : k.ports = m.ports
  taken : k.taken = m.taken
  status : k.status = m.status
section
variable {q S S' : Nat} {m k : Mach}
theorem Sim.rC (h : Sim q S m k) {a : Int} (ha : S.testBit a.toNat = true) : rC k a = rC m a := by
  show (k.regs.getD a.toNat (0, false)).2 = (m.regs.getD a.toNat (0, false)).2
  rw [h.regs _ ha]
  rfl
theorem Sim.rV0 (h : Sim q S m k) {a : Int} (ha : S.testBit a.toNat = true) (hc : ¬ Go.Proofs.YtfnicgihpelhhaaGreat.rC m a = true) : rV k a = rV m a := by
  show (k.regs.getD a.toNat (0, false)).1 = (m.regs.getD a.toNat (0, false)).1
  rw [h.regs _ ha]
  exact if_neg hc
theorem Sim.rV1 (h : Sim q S m k) {a : Int} (ha : S.testBit a.toNat = true) (hc : Go.Proofs.YtfnicgihpelhhaaGreat.rC m a = true) : rV k a = shP q (rV m a) := by
  show (k.regs.getD a.toNat (0, false)).1 = _
  rw [h.regs _ ha]
  exact if_pos hc
theorem Sim.reg (h : Sim q S m k) {a : Int} (ha : S.testBit a.toNat = true) : ((rV k a, Go.Proofs.YtfnicgihpelhhaaGreat.rC k a) : Wd) = shW q (rV m a, Go.Proofs.YtfnicgihpelhhaaGreat.rC m a) := h.regs _ ha
theorem Sim.less (h : Sim q S m k) (hS : ∀ r : Nat, S'.testBit r = true → S.testBit r = true) : Sim q S' m k := ⟨fun r hr => h.regs r (hS r hr), h.mem, h.mlen, h.tape, h.ports, h.taken, h.status⟩
theorem Sim.put (h : Sim q S m k) {d : Int} (hm : d.toNat < m.regs.length) (hk : d.toNat < k.regs.length) (x : Wd) (hS : ∀ r : Nat, S'.testBit r = true → r = d.toNat ∨ S.testBit r = true) : Sim q S' (putM m d x) (putM k d (shW q x)) := by
  refine ⟨fun r hr => ?_, h.mem, h.mlen, h.tape, h.ports, h.taken, h.status⟩
  show (k.regs.set d.toNat (shW q x)).getD r (0, false) = shW q ((m.regs.set d.toNat x).getD r (0, false))
  rw [set_get hk, set_get hm]
  by_cases e : d.toNat = r
  · rw [if_pos e, if_pos e]
  · rw [if_neg e, if_neg e]
    exact h.regs r ((hS r hr).resolve_left fun x => e x.symm)
end
/-- What both do. -/
structure Bth (q S : Nat) (m k : Mach) (r r' : Did) : Prop where
  err : r'.err = r.err
  sim : r.err = 0 → Sim q S r.m r'.m
  far : r.err = 0 → (r.to = m.pc + 1 ∧ r'.to = k.pc + 1) ∨ (m.pc ≠ q ∧ (r'.to : Int) = shP q (r.to : Int))
section
variable {q S S' : Nat} {m k : Mach}
theorem bth_no (e : Int) (he : e ≠ 0) : Bth q S' m k (noD m e) (noD k e) := ⟨rfl, fun h => absurd h he, fun h => absurd h he⟩
theorem bth_put (h : Sim q S m k) {d : Int} (hm : d.toNat < m.regs.length) (hk : d.toNat < k.regs.length) {x y : Wd} (hy : y = shW q x) (hS : ∀ r : Nat, S'.testBit r = true → r = d.toNat ∨ S.testBit r = true) : Bth q S' m k (putD m d x) (putD k d y) := by
  subst hy
  exact ⟨rfl, fun _ => h.put hm hk x hS, fun _ => .inl ⟨rfl, rfl⟩⟩
theorem bth_go (h : Sim q S m k) (hq : m.pc ≠ q) {n n' : Int} (h0 : 0 ≤ n) (hn : n' = shP q n) (hS : ∀ r : Nat, S'.testBit r = true → S.testBit r = true) : Bth q S' m k (goD m n) (goD k n') := by
  refine ⟨rfl, fun _ => h.less hS, fun _ => .inr ⟨hq, ?_⟩⟩
  show ((n'.toNat : Nat) : Int) = shP q ((n.toNat : Nat) : Int)
  rw [show ((n.toNat : Nat) : Int) = n by omega, hn]
  unfold shP
  split <;> omega
theorem bth_call (h : Sim q S m k) (h6 : m.regs.length = 16) (k6 : k.regs.length = 16) (hq : m.pc ≠ q) (hpc : (k.pc : Int) = shP q (m.pc : Int)) {n n' : Int} (h0 : 0 ≤ n) (hn : n' = shP q n) (hS : ∀ r : Nat, S'.testBit r = true → r = 15 ∨ S.testBit r = true) : Bth q S' m k (callD m n) (callD k n') := by
  refine ⟨rfl, fun _ => ?_, fun _ => .inr ⟨hq, ?_⟩⟩
  · have e : (((k.pc : Int) + 1, true) : Wd) = shW q ((m.pc : Int) + 1, true) := by
      show _ = ((if true = true then shP q ((m.pc : Int) + 1) else _, true) : Wd)
      rw [if_pos rfl, hpc]
      unfold shP
      congr 1
      split <;> split <;> omega
    show Sim q S' (putM m 15 ((m.pc : Int) + 1, true)) (putM k 15 ((k.pc : Int) + 1, true))
    rw [e]
    exact h.put (by rw [h6]; decide) (by rw [k6]; decide) _ hS
  · show ((n'.toNat : Nat) : Int) = shP q ((n.toNat : Nat) : Int)
    rw [show ((n.toNat : Nat) : Int) = n by omega, hn]
    unfold shP
    split <;> omega
theorem calc_same {op x y : Int} {p r : Bool} {x' y' : Int} (hx0 : ¬ p = true → x' = x) (hx1 : p = true → x' = shP q x) (hy0 : ¬ r = true → y' = y) (hy1 : r = true → y' = shP q y) : calcV op x' y' p r = calcV op x y p r := by
  unfold calcV
  by_cases he : calcE op p r = 0
  · rw [if_pos he, if_pos he]
    cases p with
    | false =>
      cases r with
      | false => rw [hx0 (by decide), hy0 (by decide)]
      | true =>
        exfalso
        unfold calcE at he
        split at he
        · cases he
        · split at he
          · simp at he
          · simp at he
    | true =>
      cases r with
      | false =>
        exfalso
        unfold calcE at he
        split at he
        · cases he
        · split at he
          · simp at he
          · simp at he
      | true =>
        have h10 : op = 10 := by
          unfold calcE at he
          split at he
          · cases he
          · split at he
            · assumption
            · simp at he
        subst h10
        rw [hx1 rfl, hy1 rfl]
        simp only [show ¬ (10 : Int) = 3 by decide, show ¬ (10 : Int) = 4 by decide, show ¬ (10 : Int) = 5 by decide, show ¬ (10 : Int) = 6 by decide, show ¬ (10 : Int) = 7 by decide, show ¬ (10 : Int) = 8 by decide, show ¬ (10 : Int) = 9 by decide, if_false]
        by_cases e : x = y
        · rw [if_pos e, if_pos (shP_inj.2 e)]
        · rw [if_neg e, if_neg fun h => e (shP_inj.1 h)]
  · rw [if_neg he, if_neg he]
theorem deed_both (h : Sim q S m k) (fm : Fine m) (k6 : k.regs.length = 16) {op d a b n n' : Int} (hi : InsIn op d a b n) (hpc : (k.pc : Int) = shP q (m.pc : Int)) (hend : m.pc = q → endsB op = false) (hA1 : hA op = true → S.testBit a.toNat = true) (hB1 : hB op = true → S.testBit b.toNat = true)
    (hS : ∀ r : Nat, S'.testBit r = true → (hD op = true ∧ r = d.toNat) ∨ ((op = 17 ∨ op = 18) ∧ r = 15) ∨ S.testBit r = true) (hn : n' = if hP op = true then shP q n else n) : Bth q S' m k (deedM m op d a b n) (deedM k op d a b n') := by
  have m6 := fm.sixteen
  have dm : d.toNat < m.regs.length := by have := hi.d0; have := hi.d1; omega
  have dk : d.toNat < k.regs.length := by have := hi.d0; have := hi.d1; omega
  have hSd : ¬ (op = 17 ∨ op = 18) → ∀ r : Nat, S'.testBit r = true → r = d.toNat ∨ S.testBit r = true := fun hc r hr => by
    rcases hS r hr with x | x | x
    · exact .inl x.2
    · exact absurd x.1 hc
    · exact .inr x
  have hSn : hD op = false → ¬ (op = 17 ∨ op = 18) → ∀ r : Nat, S'.testBit r = true → S.testBit r = true := fun hd hc r hr => by
    rcases hS r hr with x | x | x
    · rw [hd] at x; exact absurd x.1 (by decide)
    · exact absurd x.1 hc
    · exact x
  have hSc : hD op = false → ∀ r : Nat, S'.testBit r = true → r = 15 ∨ S.testBit r = true := fun hd r hr => by
    rcases hS r hr with x | x | x
    · rw [hd] at x; exact absurd x.1 (by decide)
    · exact .inl x.2
    · exact .inr x
  have hA2 : (2 ≤ op ∧ op ≤ 12) ∨ op = 14 ∨ op = 16 ∨ op = 18 ∨ op = 19 → S.testBit a.toNat = true := fun x => hA1 (by unfold hA; exact decide_eq_true x)
  have hB2 : (3 ≤ op ∧ op ≤ 10) ∨ op = 12 → S.testBit b.toNat = true := fun x => hB1 (by unfold hB; exact decide_eq_true x)
  have hq : endsB op = true → m.pc ≠ q := fun x e => by rw [hend e] at x; cases x
  have hn0 : ¬ ((15 ≤ op ∧ op ≤ 17) ∨ op = 20) → n' = n := fun x => by rw [hn, if_neg (by unfold hP; simpa using x)]
  have hn1 : (15 ≤ op ∧ op ≤ 17) ∨ op = 20 → n' = shP q n := fun x => by rw [hn, if_pos (by unfold hP; exact decide_eq_true x)]
  unfold deedM
  by_cases c1 : op < 0
  · simp only [if_pos c1]; exact bth_no _ (by decide)
  simp only [if_neg c1]
  by_cases c2 : op = 0
  · simp only [if_pos c2]; exact bth_no _ (by decide)
  simp only [if_neg c2]
  by_cases c3 : op = 1
  · simp only [if_pos c3]; rw [hn0 (by omega)]; exact bth_put h dm dk rfl (hSd (by omega))
  simp only [if_neg c3]
  by_cases c4 : op = 2
  · simp only [if_pos c4]; exact bth_put h dm dk (h.reg (hA2 (by omega))) (hSd (by omega))
  simp only [if_neg c4]
  by_cases c5 : op ≤ 10
  · simp only [if_pos c5]
    have ha := hA2 (by omega)
    have hb := hB2 (by omega)
    have eE : cE k op a b = cE m op a b := by unfold cE; rw [h.rC ha, h.rC hb]
    have eV : cV k op a b = cV m op a b := by
      unfold cV
      rw [h.rC ha, h.rC hb]
      exact calc_same (fun x => h.rV0 ha x) (fun x => h.rV1 ha x) (fun x => h.rV0 hb x) (fun x => h.rV1 hb x)
    unfold calcD
    rw [eE, eV]
    by_cases ck : cE m op a b = 0
    · simp only [if_pos ck]; exact bth_put h dm dk rfl (hSd (by omega))
    · simp only [if_neg ck]; exact bth_no _ ck
  simp only [if_neg c5]
  have eA : S.testBit a.toNat = true → aE k a n = aE m a n ∧ aV k a n = aV m a n := fun ha => by
    unfold aE aV addrE addrV
    rw [h.rC ha, h.mlen]
    by_cases c : rC m a = true
    · simp only [c, if_true, and_self]
    · rw [h.rV0 ha c]; exact ⟨rfl, rfl⟩
  by_cases c6 : op = 11
  · simp only [if_pos c6]
    rw [hn0 (by omega)]
    obtain ⟨e1, e2⟩ := eA (hA2 (by omega))
    unfold loadD
    rw [e1, e2]
    by_cases ck : aE m a n = 0
    · simp only [if_pos ck]; exact bth_put h dm dk (h.mem _) (hSd (by omega))
    · simp only [if_neg ck]; exact bth_no _ ck
  simp only [if_neg c6]
  by_cases c7 : op = 12
  · simp only [if_pos c7]
    rw [hn0 (by omega)]
    obtain ⟨e1, e2⟩ := eA (hA2 (by omega))
    unfold storeD
    rw [e1, e2]
    by_cases ck : aE m a n = 0
    · simp only [if_pos ck]
      have hr := aV_range ck
      refine ⟨rfl, fun _ => ?_, fun _ => .inl ⟨rfl, rfl⟩⟩
      rw [h.reg (hB2 (by omega))]
      refine ⟨fun r hr => h.regs r (hSn (by rw [c7]; rfl) (by omega) r hr), fun j => ?_, by simp [storeM, h.mlen], h.tape, h.ports, h.taken, h.status⟩
      show (k.mem.set _ _).getD j (0, false) = shW q ((m.mem.set _ _).getD j (0, false))
      rw [set_get (by rw [h.mlen]; omega), set_get (by omega)]
      split
      · rfl
      · exact h.mem j
    · simp only [if_neg ck]; exact bth_no _ ck
  simp only [if_neg c7]
  by_cases c8 : op = 13
  · simp only [if_pos c8]
    unfold inD
    rw [h.taken, h.tape]
    by_cases ck : m.taken = m.tape.length
    · simp only [if_pos ck]; exact bth_put h dm dk rfl (hSd (by omega))
    · simp only [if_neg ck]
      have h2 : Sim q S (takeM m) (takeM k) := ⟨h.regs, h.mem, h.mlen, h.tape, h.ports, by show k.taken + 1 = m.taken + 1; rw [h.taken], h.status⟩
      exact ⟨rfl, fun _ => h2.put dm dk (nth m.tape m.taken, false) (hSd (by omega)), fun _ => .inl ⟨rfl, rfl⟩⟩
  simp only [if_neg c8]
  by_cases c9 : op = 14
  · simp only [if_pos c9]
    rw [hn0 (by omega)]
    have ha := hA2 (by omega)
    unfold outD
    rw [h.rC ha]
    by_cases ck : rC m a = true
    · simp only [if_pos ck]; exact bth_no _ (by decide)
    · simp only [if_neg ck]
      rw [h.rV0 ha ck]
      exact ⟨rfl, fun _ => ⟨fun r hr => h.regs r (hSn (by rw [c9]; rfl) (by omega) r hr), h.mem, h.mlen, h.tape, by show k.ports ++ _ = m.ports ++ _; rw [h.ports], h.taken, h.status⟩, fun _ => .inl ⟨rfl, rfl⟩⟩
  simp only [if_neg c9]
  by_cases c10 : op = 15
  · simp only [if_pos c10]
    exact bth_go h (hq (by rw [c10]; rfl)) (hi.pl (by omega)).1 (hn1 (by omega)) (hSn (by rw [c10]; rfl) (by omega))
  simp only [if_neg c10]
  by_cases c11 : op = 16
  · simp only [if_pos c11]
    have ha := hA2 (by omega)
    unfold zeroD
    rw [h.rC ha]
    by_cases ck : rC m a = true
    · simp only [if_pos ck]; exact bth_no _ (by decide)
    · simp only [if_neg ck]
      rw [h.rV0 ha ck]
      by_cases c0 : rV m a = 0
      · simp only [if_pos c0]
        exact bth_go h (hq (by rw [c11]; rfl)) (hi.pl (by omega)).1 (hn1 (by omega)) (hSn (by rw [c11]; rfl) (by omega))
      · simp only [if_neg c0]
        exact ⟨rfl, fun _ => h.less (hSn (by rw [c11]; rfl) (by omega)), fun _ => .inl ⟨rfl, rfl⟩⟩
  simp only [if_neg c11]
  by_cases c12 : op = 17
  · simp only [if_pos c12]
    exact bth_call h m6 k6 (hq (by rw [c12]; rfl)) hpc (hi.pl (by omega)).1 (hn1 (by omega)) (hSc (by rw [c12]; rfl))
  simp only [if_neg c12]
  by_cases c13 : op = 18
  · simp only [if_pos c13]
    have ha := hA2 (by omega)
    unfold callsD
    rw [h.rC ha]
    by_cases ck : rC m a = true
    · simp only [if_pos ck]
      exact bth_call h m6 k6 (hq (by rw [c13]; rfl)) hpc (fm.regs _ ck).1 (h.rV1 ha ck) (hSc (by rw [c13]; rfl))
    · simp only [if_neg ck]; exact bth_no _ (by decide)
  simp only [if_neg c13]
  by_cases c14 : op = 19
  · simp only [if_pos c14]
    have ha := hA2 (by omega)
    unfold gotoD
    rw [h.rC ha]
    by_cases ck : rC m a = true
    · simp only [if_pos ck]
      exact bth_go h (hq (by rw [c14]; rfl)) (fm.regs _ ck).1 (h.rV1 ha ck) (hSn (by rw [c14]; rfl) (by omega))
    · simp only [if_neg ck]; exact bth_no _ (by decide)
  simp only [if_neg c14]
  by_cases c15 : op = 20
  · simp only [if_pos c15]
    rw [hn1 (by omega)]
    exact bth_put h dm dk rfl (hSd (by omega))
  simp only [if_neg c15]
  have h21 : op = 21 := by have := hi.o1; omega
  refine ⟨rfl, fun _ => ⟨fun r hr => h.regs r (hSn (by rw [h21]; rfl) (by omega) r hr), h.mem, h.mlen, h.tape, h.ports, h.taken, rfl⟩, fun _ => .inr ⟨hq (by rw [h21]; rfl), hpc⟩⟩
end



end Go.Proofs.YtfnicgihpelhhaaGreat

namespace Go.Proofs.YtfnicgihpelhhaaGreat
open Go.RowKit

/-- What is live ahead of a place. -/
def livA (text : List Int) (H : Int → Nat) (p : Nat) : Nat := insN (rdN (nth text p)) (wrN (nth text p)) (H (p : Int))
theorem less_none {x : Nat} (h : x < 65536) : lessN x 0 = x := by
  apply Nat.eq_of_testBit_eq
  intro i
  rw [lessN_bit (by decide)]
  by_cases hi : i < 16
  · simp [hi]
  · rw [Nat.testBit_lt_two_pow (Nat.lt_of_lt_of_le h (show 2 ^ 16 ≤ 2 ^ i from Nat.pow_le_pow_right (by decide) (by omega)))]
    rfl
theorem all_cons (v : Int) (l : List Int) (j : Nat) : allR (v :: l) (1 + j) = rdN v ||| lessN (allR l j) (wrN v) ∧ allW (v :: l) (1 + j) = wrN v ||| allW l j := by
  have e1 : allW [v] 1 = wrN v := by show 0 ||| wrN (nth [v] 0) = _; rw [Nat.zero_or]; rfl
  have e2 : allR [v] 1 = rdN v := by
    show 0 ||| lessN (rdN (nth [v] 0)) 0 = _
    rw [Nat.zero_or, less_none (rdN_lt _)]
    rfl
  have h1 := allR_two [v] l j
  have h2 := allW_two [v] l j
  rw [show [v].length = 1 from rfl, e1, e2] at h1
  rw [show [v].length = 1 from rfl, e1] at h2
  exact ⟨h1, h2⟩
theorem cut_cons {l : List Int} {e : Int} {j : Nat} (h0 : 0 ≤ e - ((j + 1 : Nat) : Int)) (h1 : e ≤ (l.length : Int)) : cutL l (e - ((j + 1 : Nat) : Int)) e = nth l (e - 1 - (j : Int)).toNat :: cutL l (e - (j : Int)) e := by
  unfold cutL
  have a : (e - ((j + 1 : Nat) : Int)).toNat = (e - 1 - (j : Int)).toNat := by omega
  have b : (e - (e - ((j + 1 : Nat) : Int))).toNat = j + 1 := by omega
  have c : (e - (j : Int)).toNat = (e - 1 - (j : Int)).toNat + 1 := by omega
  have d : (e - (e - (j : Int))).toNat = j := by omega
  have hl : (e - 1 - (j : Int)).toNat < l.length := by omega
  rw [a, b, c, d, List.drop_eq_getElem_cons hl, List.take_succ_cons]
  congr 1
  unfold nth
  rw [List.getD_eq_getElem?_getD, List.getElem?_eq_getElem hl]
  rfl
/-- A row as a whole, and word by word. -/
theorem setB_all {text : List Int} {e : Int} (h1 : e ≤ (text.length : Int)) {s : Nat} (hs : s < 65536) : ∀ j : Nat, 0 ≤ e - (j : Int) → setB text e s j = insN (allR (cutL text (e - (j : Int)) e) j) (allW (cutL text (e - (j : Int)) e) j) s
  | 0, _ => by
    show s = 0 ||| lessN s 0
    rw [Nat.zero_or, less_none hs]
  | j + 1, h0 => by
    have ih := setB_all h1 hs j (by omega)
    rw [cut_cons h0 h1]
    obtain ⟨e1, e2⟩ := all_cons (nth text (e - 1 - (j : Int)).toNat) (cutL text (e - (j : Int)) e) j
    rw [Nat.add_comm 1 j] at e1 e2
    rw [e1, e2]
    show insN _ _ (setB text e s j) = _
    rw [ih]
    unfold insN
    rw [or_less (wrN_lt _), less_or (wrN_lt _) (allW_lt _ _), Nat.or_assoc]
section
variable {text : List Int} {ent : Int} {F G H : Int → Nat}
/-- What is live ahead of where a machine goes next is live behind where it stood. -/
theorem live_way (hL : LstI text ent F G) (hH : ∀ i : Nat, i < (blkL text ent).length → ∀ p : Nat, rAt (blkL text ent) i ≤ (p : Int) → (p : Int) < rSym (blkL text ent) i → H (p : Int) = setB text (rSym (blkL text ent) i) (G (i : Int)) (rSym (blkL text ent) i - 1 - (p : Int)).toNat)
    (hG : ∀ i : Nat, i < (blkL text ent).length → G (i : Int) < 65536) {b p p' : Nat} (hb : b < (blkL text ent).length) (h1 : rAt (blkL text ent) b ≤ (p : Int)) (h2 : (p : Int) < rSym (blkL text ent) b) (hend : (p' : Int) ≠ (p : Int) + 1 ∨ ¬ (p' : Int) < rSym (blkL text ent) b → rSym (blkL text ent) b = (p : Int) + 1) (hw : Way text ent b p p') : SubN (livA text H p') (H (p : Int)) := by
  by_cases hin : (p' : Int) = (p : Int) + 1 ∧ (p' : Int) < rSym (blkL text ent) b
  · obtain ⟨e, hlt⟩ := hin
    have e1 := hH b hb p h1 h2
    have e2 := hH b hb p' (by omega) hlt
    rw [e1]
    unfold livA
    rw [e2]
    rw [show (rSym (blkL text ent) b - 1 - (p : Int)).toNat = (rSym (blkL text ent) b - 1 - (p' : Int)).toNat + 1 by omega]
    show SubN _ (insN _ _ _)
    rw [show (rSym (blkL text ent) b - 1 - (((rSym (blkL text ent) b - 1 - (p' : Int)).toNat : Nat) : Int)).toNat = p' by omega]
    exact SubN.refl _
  · have hl : rSym (blkL text ent) b = (p : Int) + 1 := hend (by
      by_cases x : (p' : Int) = (p : Int) + 1
      · exact .inr fun y => hin ⟨x, y⟩
      · exact .inl x)
    rcases hw with ⟨x, y⟩ | ⟨k, hk, _, hat, hed⟩
    · exact absurd ⟨by omega, y⟩ hin
    · obtain ⟨f0, f1, f2⟩ := blk_in hk
      have e0 := hH b hb p h1 h2
      rw [hl, show ((p : Int) + 1 - 1 - (p : Int)).toNat = 0 by omega] at e0
      have e0 : H (p : Int) = G (b : Int) := e0
      have e1 := hH k hk p' (by omega) (by omega)
      have e2 : livA text H p' = F (k : Int) := by
        unfold livA
        rw [e1, hL.sol.inn k hk]
        have hj : (rSym (blkL text ent) k - (rAt (blkL text ent) k)).toNat = (rSym (blkL text ent) k - 1 - (p' : Int)).toNat + 1 := by omega
        have h := setB_all f2 (hG k hk) (rSym (blkL text ent) k - (rAt (blkL text ent) k)).toNat (by omega)
        rw [show rSym (blkL text ent) k - (((rSym (blkL text ent) k - (rAt (blkL text ent) k)).toNat : Nat) : Int) = rAt (blkL text ent) k by omega] at h
        have hcl := cutL_len f0 (show rAt (blkL text ent) k ≤ rSym (blkL text ent) k by omega) f2
        unfold blR blW
        rw [hcl, ← h, hj]
        show _ = insN _ _ _
        rw [show (rSym (blkL text ent) k - 1 - (((rSym (blkL text ent) k - 1 - (p' : Int)).toNat : Nat) : Int)).toNat = p' by omega]
      rw [e2, e0, hL.sol.out b hb]
      obtain ⟨t, ht, et⟩ := mem_nth hed
      have hsub : ∀ n, t < n → SubN (F (k : Int)) (orE F (rowZ (edgT text ent (blkL text ent).length) b) n) := by
        intro n
        induction n with
        | zero => intro h; omega
        | succ n ih =>
          intro h r hr
          show (orE F _ n ||| F (nth _ n)).testBit r = true
          rw [Nat.testBit_or, Bool.or_eq_true]
          by_cases e : t = n
          · right; rw [← e, et]; exact hr
          · left; exact ih (by omega) r hr
      exact hsub _ ht
end



end Go.Proofs.YtfnicgihpelhhaaGreat

namespace Go.Proofs.YtfnicgihpelhhaaGreat
open Go.RowKit

def shN (q p : Nat) : Nat := if q < p then p + 1 else p
theorem shN_cast (q p : Nat) : ((shN q p : Nat) : Int) = shP q (p : Int) := by
  unfold shN shP
  by_cases h : q < p
  · rw [if_pos h, if_pos (by omega)]; omega
  · rw [if_neg h, if_neg (by omega)]
/-- A word and its twin. -/
structure Twn (q : Nat) (v v' : Int) : Prop where
  op : dOp v' = dOp v
  d : dD v' = dD v
  a : dA v' = dA v
  b : dB v' = dB v
  n : dN v' = if hP (dOp v) = true then shP q (dN v) else dN v
/-- A text, and the one that has a word more behind q, which sets the register r. -/
structure Oth (text text' : List Int) (q : Nat) (r : Int) : Prop where
  len : text'.length = text.length + 1
  qlt : q + 1 < text.length
  old : ∀ i, i < text.length → Twn q (nth text i) (nth text' (shN q i))
  op : dOp (nth text' (q + 1)) = 1
  d : dD (nth text' (q + 1)) = r
  plain : endsB (dOp (nth text q)) = false
theorem lessN_lt2 (a b : Nat) : lessN a b < 65536 := by
  have : lessN a b ≤ 65535 - b := Nat.and_le_right
  omega
theorem lst_lt {text : List Int} {ent : Int} {F G : Int → Nat} (h : LstI text ent F G) (i : Nat) (hi : i < (blkL text ent).length) : G (i : Int) < 65536 := by
  have hF : ∀ j : Nat, j < (blkL text ent).length → F (j : Int) < 65536 := fun j hj => by
    rw [h.sol.inn j hj]
    exact orN_lt (blR_lt text ent j) (lessN_lt2 _ _)
  rw [h.sol.out i hi]
  have : ∀ n, n ≤ (rowZ (edgT text ent (blkL text ent).length) i).length → orE F (rowZ (edgT text ent (blkL text ent).length) i) n < 65536 := by
    intro n
    induction n with
    | zero => intro _; show 0 < 65536; decide
    | succ n ih =>
      intro hn
      obtain ⟨a, b⟩ := edg_in (text := text) (ent := ent) hi (show n < _ by omega)
      refine orN_lt (ih (by omega)) ?_
      have := hF (nth (rowZ (edgT text ent (blkL text ent).length) i) n).toNat (by omega)
      rwa [show (((nth (rowZ (edgT text ent (blkL text ent).length) i) n).toNat : Nat) : Int) = nth (rowZ (edgT text ent (blkL text ent).length) i) n by omega] at this
  exact this _ (Nat.le_refl _)
/-- Both machines, between steps. -/
structure Rl (text text' : List Int) (ent : Int) (q : Nat) (H : Int → Nat) (m k : Mach) : Prop where
  go : Going text ent m
  fine : Fine k
  txt : k.text = text'
  pc : k.pc = shN q m.pc
  sim : Sim q (livA text H m.pc) m k
theorem bit_self {h : Bool} {r : Int} (hh : h = true) : (bitN h r).testBit r.toNat = true := by
  unfold bitN
  rw [if_pos hh]
  exact Nat.testBit_two_pow_self
theorem bit_only {h : Bool} {r : Int} {i : Nat} (hb : (bitN h r).testBit i = true) : h = true ∧ i = r.toNat := by
  unfold bitN at hb
  split at hb
  · rename_i hh
    rw [Nat.testBit_two_pow, decide_eq_true_eq] at hb
    exact ⟨hh, hb.symm⟩
  · rw [Nat.zero_testBit] at hb; cases hb
theorem livA_a {text : List Int} {H : Int → Nat} {p : Nat} (h : hA (dOp (nth text p)) = true) : (livA text H p).testBit (dA (nth text p)).toNat = true := by
  unfold livA insN rdN
  rw [Nat.testBit_or, Nat.testBit_or, bit_self h]
  rfl
theorem livA_b {text : List Int} {H : Int → Nat} {p : Nat} (h : hB (dOp (nth text p)) = true) : (livA text H p).testBit (dB (nth text p)).toNat = true := by
  unfold livA insN rdN
  rw [Nat.testBit_or, Nat.testBit_or, bit_self h, Bool.or_true]
  rfl
theorem livA_s {text : List Int} {H : Int → Nat} {p : Nat} (hl : H (p : Int) < 65536) {r : Nat} (h : (H (p : Int)).testBit r = true) : (hD (dOp (nth text p)) = true ∧ r = (dD (nth text p)).toNat) ∨ ((dOp (nth text p) = 17 ∨ dOp (nth text p) = 18) ∧ r = 15) ∨ (livA text H p).testBit r = true := by
  cases hw : (wrN (nth text p)).testBit r with
  | true =>
    unfold wrN at hw
    split at hw
    · rename_i hc
      refine .inr (.inl ⟨hc, ?_⟩)
      rw [show 32768 = 2 ^ 15 from rfl, Nat.testBit_two_pow, decide_eq_true_eq] at hw
      exact hw.symm
    · exact .inl (bit_only hw)
  | false =>
    refine .inr (.inr ?_)
    unfold livA insN
    rw [Nat.testBit_or, lessN_bit (wrN_lt _), h, hw]
    have hr : r < 16 := by
      by_cases c : r < 16
      · exact c
      · rw [Nat.testBit_lt_two_pow (Nat.lt_of_lt_of_le hl (show 2 ^ 16 ≤ 2 ^ r from Nat.pow_le_pow_right (by decide) (by omega)))] at h
        cases h
    simp [hr]
theorem step_run {m : Mach} (h : m.status = 0) : stepM m = if (doM m).err = 0 then hopM (doM m).m (doM m).to (m.steps + 1) else endM m (doM m).err := by unfold stepM; rw [if_pos h]
theorem step_both {text text' : List Int} {ml : Nat} {ent r : Int} {q : Nat} {H : Int → Nat} {m k : Mach} (hM : MayI text ml ent) (hO : Oth text text' q r) (hH : BhI text ent H) (hd : (H (q : Int)).testBit r.toNat = false) (h : Rl text text' ent q H m k) :
    (stepM k).status = (stepM m).status ∧ Sim q 0 (stepM m) (stepM k) ∧ ((stepM m).status = 0 → (m.pc ≠ q ∧ Rl text text' ent q H (stepM m) (stepM k)) ∨ (m.pc = q ∧ (stepM m).pc = q + 1 ∧ (stepM k).pc = q + 1 ∧ (stepM (stepM k)).status = 0 ∧ Rl text text' ent q H (stepM m) (stepM (stepM k)))) := by
  obtain ⟨F, G, hL, hB⟩ := hH
  have hGl := lst_lt hL
  have hpc := h.go.pc
  have htx := h.go.same
  have hrun := h.go.run
  have krun : k.status = 0 := by rw [h.sim.status]; exact hrun
  have kpc : (k.pc : Int) = shP q (m.pc : Int) := by rw [h.pc]; exact shN_cast q m.pc
  have kin : k.pc < k.text.length := by rw [h.txt, hO.len, h.pc]; unfold shN; split <;> omega
  have tw := hO.old m.pc hpc
  rw [← h.pc, ← h.txt] at tw
  obtain ⟨v0, v1⟩ := h.go.fine.words m.pc (by rw [htx]; exact hpc)
  rw [htx] at v0 v1
  have hdm : doM m = deedM m (dOp (nth text m.pc)) (dD (nth text m.pc)) (dA (nth text m.pc)) (dB (nth text m.pc)) (dN (nth text m.pc)) := by
    unfold doM
    rw [if_neg (by rw [htx]; omega), htx]
  have hdk : doM k = deedM k (dOp (nth text m.pc)) (dD (nth text m.pc)) (dA (nth text m.pc)) (dB (nth text m.pc)) (dN (nth k.text k.pc)) := by
    unfold doM
    rw [if_neg (by omega), tw.op, tw.d, tw.a, tw.b]
  obtain ⟨b, hb, b1, b2⟩ := in_blk (f := begF text ent) (n := text.length) (begin_zero text ent) m.pc hpc
  have hb : b < (blkL text ent).length := hb
  have b1 : rAt (blkL text ent) b ≤ (m.pc : Int) := b1
  have b2 : (m.pc : Int) < rSym (blkL text ent) b := b2
  have hob : ofB (blkL text ent) (m.pc : Int) = (b : Int) := of_in (f := begF text ent) (n := text.length) hb b1 b2
  have hHl : H (m.pc : Int) < 65536 := by rw [hB b hb m.pc b1 b2]; exact setB_lt _ _ (hGl b hb) _
  have B : Bth q (H (m.pc : Int)) m k (doM m) (doM k) := by
    rw [hdm, hdk]
    exact deed_both h.sim h.go.fine h.fine.sixteen (ins_in v0 v1) kpc (fun e => by rw [e]; exact hO.plain) livA_a livA_b (fun r hr => livA_s hHl hr) tw.n
  have hsm : stepM m = if (doM m).err = 0 then hopM (doM m).m (doM m).to (m.steps + 1) else endM m (doM m).err := by unfold stepM; rw [if_pos hrun]
  have hsk : stepM k = if (doM m).err = 0 then hopM (doM k).m (doM k).to (k.steps + 1) else endM k (doM m).err := by unfold stepM; rw [if_pos krun, B.err]
  by_cases he : (doM m).err = 0
  · rw [if_pos he] at hsm hsk
    have hs := B.sim he
    have hf := B.far he
    refine ⟨by rw [hsm, hsk]; exact hs.status, by rw [hsm, hsk]; exact ⟨fun r hr => (by rw [Nat.zero_testBit] at hr; cases hr), hs.mem, hs.mlen, hs.tape, hs.ports, hs.taken, hs.status⟩, fun hst => ?_⟩
    obtain ⟨hgo, hway⟩ := going_step hM h.go hst
    have hpm : (stepM m).pc = (doM m).to := by rw [hsm]; rfl
    have hpk : (stepM k).pc = (doM k).to := by rw [hsk]; rfl
    have hstat : (doM m).m.status = 0 := by rw [hsm] at hst; exact hst
    have hcase : ((stepM m).pc = m.pc + 1 ∧ ((stepM m).pc : Int) < rSym (blkL text ent) b) ∨ rSym (blkL text ent) b = (m.pc : Int) + 1 := by
      by_cases c : rSym (blkL text ent) b = (m.pc : Int) + 1
      · exact .inr c
      · refine .inl ?_
        have hne : endsB (dOp (nth text m.pc)) = false := by
          cases x : endsB (dOp (nth text m.pc)) with
          | false => rfl
          | true => exact absurd (blk_ends hb b1 b2 x) c
        have hn2 : ¬ (dOp (nth text m.pc) = 15 ∨ dOp (nth text m.pc) = 16 ∨ dOp (nth text m.pc) = 17 ∨ dOp (nth text m.pc) = 18 ∨ dOp (nth text m.pc) = 19) := by
          unfold endsB at hne
          rw [decide_eq_false_iff_not] at hne
          omega
        have hd2 := deed_to (m := m) (op := dOp (nth text m.pc)) (d := dD (nth text m.pc)) (a := dA (nth text m.pc)) (b := dB (nth text m.pc)) (n := dN (nth text m.pc)) (by rw [← hdm]; exact he) (by rw [← hdm]; exact hstat)
        rw [← hdm] at hd2
        rcases hd2 with ⟨_, x⟩ | ⟨x, _⟩ | ⟨x, _⟩ | ⟨x, _⟩
        · rw [hpm, x]; exact ⟨rfl, by omega⟩
        · exact absurd (by omega) hn2
        · exact absurd (by omega) hn2
        · exact absurd (by omega) hn2
    have hsub : SubN (livA text H (stepM m).pc) (H (m.pc : Int)) := live_way hL hB hGl hb b1 b2 (fun x => by
      rcases hcase with y | y
      · rcases x with x | x
        · exact absurd (by omega) x
        · exact absurd y.2 x
      · exact y) (hway b hb hob)
    have hsim2 : Sim q (livA text H (stepM m).pc) (stepM m) (stepM k) := by
      have h2 := hs.less hsub
      rw [hsm] at h2 ⊢
      rw [hsk]
      exact ⟨h2.regs, h2.mem, h2.mlen, h2.tape, h2.ports, h2.taken, h2.status⟩
    have hkt : (stepM k).text = text' := by
      have := do_kept h.fine (by rw [B.err]; exact he)
      rw [hsk]
      exact this.text.trans h.txt
    by_cases hq : m.pc = q
    · refine .inr ⟨hq, ?_⟩
      rcases hf with ⟨f1, f2⟩ | ⟨f1, _⟩
      · have e1 : (stepM m).pc = q + 1 := by rw [hpm, f1, hq]
        have e2 : (stepM k).pc = q + 1 := by
          rw [hpk, f2, h.pc, hq]
          unfold shN
          rw [if_neg (by omega)]
        have kst : (stepM k).status = 0 := by rw [hsim2.status]; exact hst
        have kdo : doM (stepM k) = putD (stepM k) r (dN (nth text' (q + 1)), false) := by
          unfold doM
          rw [if_neg (by rw [hkt, hO.len, e2]; have := hO.qlt; omega), hkt, e2, hO.op, hO.d]
          rfl
        have ks : stepM (stepM k) = hopM (putM (stepM k) r (dN (nth text' (q + 1)), false)) (q + 1 + 1) ((stepM k).steps + 1) := by
          rw [step_run kst, kdo]
          show hopM (putM (stepM k) r _) ((stepM k).pc + 1) _ = _
          rw [e2]
        refine ⟨e1, e2, by rw [ks]; exact kst, hgo, fine_step (fine_step h.fine), by rw [ks]; exact hkt, by rw [ks, e1]; show q + 1 + 1 = shN q (q + 1); unfold shN; rw [if_pos (by omega)], ?_⟩
        rw [ks]
        refine ⟨fun j hj => ?_, hsim2.mem, hsim2.mlen, hsim2.tape, hsim2.ports, hsim2.taken, hsim2.status⟩
        have hne : r.toNat ≠ j := fun e => by
          have := hsub j hj
          rw [hq, ← e, hd] at this
          cases this
        show ((stepM k).regs.set r.toNat _).getD j (0, false) = _
        rw [List.getD_eq_getElem?_getD, List.getElem?_set_ne hne, ← List.getD_eq_getElem?_getD]
        exact hsim2.regs j hj
      · exact absurd hq f1
    · refine .inl ⟨hq, hgo, fine_step h.fine, hkt, ?_, hsim2⟩
      rw [hpk, hpm]
      rcases hf with ⟨f1, f2⟩ | ⟨_, f2⟩
      · rw [f1, f2, h.pc]
        unfold shN
        split <;> split <;> omega
      · have := shN_cast q (doM m).to
        omega
  · rw [if_neg he] at hsm hsk
    refine ⟨by rw [hsm, hsk]; rfl, by rw [hsm, hsk]; exact ⟨fun r hr => (by rw [Nat.zero_testBit] at hr; cases hr), h.sim.mem, h.sim.mlen, h.sim.tape, h.sim.ports, h.sim.taken, rfl⟩, fun hst => ?_⟩
    rw [hsm] at hst
    exact absurd hst he



end Go.Proofs.YtfnicgihpelhhaaGreat
