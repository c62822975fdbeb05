/-
  A machine as plain mathematics: what a step does, what so many steps do; no Go in sight. The small functions of package word and of the document's answer, each by what it returns: Plain, Sealed, truth, sealFault and the closures of operation; no condition. Calc of package word, case by case, by a walk of its text; no condition. Calc of package word, case by case, by a walk of its text; no condition.
-/
import Derived.Test.YtfnicgihpelhhaaGreatProg
import Derived.WalkKit
import Derived.WalkSpells
import Derived.WalkLawsBesides
import Derived.RowKit3
import Derived.Below
import Derived.Deep.QuietTactic
import Derived.BigQuiet
import Derived.WalkSmall
import Derived.Laws.Rows
import Derived.Deep.RegionHeld3
import Derived.Laws.Pointers
import Derived.Outline
import Derived.StillTactics
import Derived.Test.YtfnicgihpelhhaaGreatPd10
import Derived.Test.YtfnicgihpelhhaaGreatPd04
import Derived.Test.YtfnicgihpelhhaaGreatPd01
namespace Go.Proofs.YtfnicgihpelhhaaGreat
open Go.RowKit

abbrev Wd := Int × Bool
/-- A word of a list: its number, and whether it is sealed. -/
def wV (l : List Wd) (k : Nat) : Int := (l.getD k (0, false)).1
def wC (l : List Wd) (k : Nat) : Bool := (l.getD k (0, false)).2
/-- A machine. -/
structure Mach where
  text : List Int
  tape : List Int
  regs : List Wd
  mem : List Wd
  ports : List (Int × Int)
  pc : Nat
  steps : Nat
  taken : Nat
  status : Int
/-- What an instruction does: its fault (0: none), the machine behind it, the place at which it stands then. -/
structure Did where
  err : Int
  m : Mach
  to : Nat
def rV (m : Mach) (a : Int) : Int := wV m.regs a.toNat
def rC (m : Mach) (a : Int) : Bool := wC m.regs a.toNat
def putM (m : Mach) (d : Int) (x : Wd) : Mach := { m with regs := m.regs.set d.toNat x }
def noD (m : Mach) (e : Int) : Did := ⟨e, m, 0⟩
def putD (m : Mach) (d : Int) (x : Wd) : Did := ⟨0, putM m d x, m.pc + 1⟩
def linkM (m : Mach) : Mach := putM m 15 ((m.pc : Int) + 1, true)
def cE (m : Mach) (op a b : Int) : Int := calcE op (rC m a) (rC m b)
def cV (m : Mach) (op a b : Int) : Int := calcV op (rV m a) (rV m b) (rC m a) (rC m b)
def aE (m : Mach) (a n : Int) : Int := addrE (rV m a) n m.mem.length (rC m a)
def aV (m : Mach) (a n : Int) : Int := addrV (rV m a) n m.mem.length (rC m a)
def calcD (m : Mach) (op d a b : Int) : Did := if cE m op a b = 0 then putD m d (cV m op a b, false) else noD m (cE m op a b)
def loadD (m : Mach) (d a n : Int) : Did := if aE m a n = 0 then putD m d (wV m.mem (aV m a n).toNat, wC m.mem (aV m a n).toNat) else noD m (aE m a n)
def storeM (m : Mach) (k : Nat) (x : Wd) : Mach := { m with mem := m.mem.set k x }
def storeD (m : Mach) (a b n : Int) : Did := if aE m a n = 0 then ⟨0, storeM m (aV m a n).toNat (rV m b, rC m b), m.pc + 1⟩ else noD m (aE m a n)
def takeM (m : Mach) : Mach := { m with taken := m.taken + 1 }
def inD (m : Mach) (d : Int) : Did := if m.taken = m.tape.length then putD m d (0, false) else ⟨0, putM (takeM m) d (nth m.tape m.taken, false), m.pc + 1⟩
def outM (m : Mach) (n v : Int) : Mach := { m with ports := m.ports ++ [(n, v)] }
def outD (m : Mach) (a n : Int) : Did := if rC m a = true then noD m 4 else ⟨0, outM m n (rV m a), m.pc + 1⟩
def goD (m : Mach) (n : Int) : Did := ⟨0, m, n.toNat⟩
def zeroD (m : Mach) (a n : Int) : Did := if rC m a = true then noD m 4 else if rV m a = 0 then goD m n else ⟨0, m, m.pc + 1⟩
def callD (m : Mach) (n : Int) : Did := ⟨0, linkM m, n.toNat⟩
def callsD (m : Mach) (a : Int) : Did := if rC m a = true then callD m (rV m a) else noD m 4
def gotoD (m : Mach) (a : Int) : Did := if rC m a = true then goD m (rV m a) else noD m 4
def haltD (m : Mach) : Did := ⟨0, { m with status := 1 }, m.pc⟩
def deedM (m : Mach) (op d a b n : Int) : Did :=
  if op < 0 then noD m 3 else if op = 0 then noD m 2 else if op = 1 then putD m d (n, false) else if op = 2 then putD m d (rV m a, rC m a)
  else if op ≤ 10 then calcD m op d a b else if op = 11 then loadD m d a n else if op = 12 then storeD m a b n else if op = 13 then inD m d
  else if op = 14 then outD m a n else if op = 15 then goD m n else if op = 16 then zeroD m a n else if op = 17 then callD m n
  else if op = 18 then callsD m a else if op = 19 then gotoD m a else if op = 20 then putD m d (n, true) else haltD m
def endM (m : Mach) (f : Int) : Mach := { m with status := f }
def hopM (m : Mach) (k s : Nat) : Mach := { m with pc := k, steps := s }
def doM (m : Mach) : Did := if m.text.length ≤ m.pc then noD m 2 else deedM m (dOp (nth m.text m.pc)) (dD (nth m.text m.pc)) (dA (nth m.text m.pc)) (dB (nth m.text m.pc)) (dN (nth m.text m.pc))
/-- One step. -/
def stepM (m : Mach) : Mach := if m.status = 0 then (if (doM m).err = 0 then hopM (doM m).m (doM m).to (m.steps + 1) else endM m (doM m).err) else m
/-- So many steps. -/
def runM : Nat → Mach → Mach
  | 0, m => m
  | k + 1, m => runM k (stepM m)
/-- At the beginning. -/
def newM (text tape mem : List Int) (ent : Int) : Mach := ⟨text, tape, List.replicate 16 (0, false), mem.map (fun v => (v, false)), [], ent.toNat, 0, 0, 0⟩

theorem run_snoc (k : Nat) (m : Mach) : runM (k + 1) m = stepM (runM k m) := by
  induction k generalizing m with
  | zero => rfl
  | succ k ih => show runM (k + 1) (stepM m) = _; rw [ih]; rfl
theorem run_add (j k : Nat) (m : Mach) : runM (j + k) m = runM k (runM j m) := by
  induction j generalizing m with
  | zero => simp [runM]
  | succ j ih => rw [Nat.succ_add]; show runM (j + k) (stepM m) = _; rw [ih]; rfl
theorem step_done {m : Mach} (h : ¬ m.status = 0) : stepM m = m := by unfold stepM; rw [if_neg h]
theorem run_done {m : Mach} (h : ¬ m.status = 0) (k : Nat) : runM k m = m := by
  induction k with
  | zero => rfl
  | succ k ih => rw [run_snoc, ih, step_done h]
theorem run_end {m : Mach} {j k : Nat} (h : ¬ (runM j m).status = 0) (hk : j ≤ k) : runM k m = runM j m := by
  obtain ⟨i, rfl⟩ := Nat.exists_eq_add_of_le hk
  rw [run_add, run_done h]

theorem set_get {l : List Wd} {k : Nat} {x : Wd} {j : Nat} (h : k < l.length) : (l.set k x).getD j (0, false) = if k = j then x else l.getD j (0, false) := by
  simp only [List.getD, List.getElem?_set]
  split
  · simp
  · rfl
theorem wV_set {l : List Wd} {k : Nat} {x : Wd} (j : Nat) (h : k < l.length) : wV (l.set k x) j = if k = j then x.1 else wV l j := by
  unfold wV; rw [set_get h]; split <;> rfl
theorem wC_set {l : List Wd} {k : Nat} {x : Wd} (j : Nat) (h : k < l.length) : wC (l.set k x) j = if k = j then x.2 else wC l j := by
  unfold wC; rw [set_get h]; split <;> rfl
/-- A sealed word is a place, not far behind the text. -/
def Safe (l : List Wd) : Prop := ∀ k, wC l k = true → 0 ≤ wV l k ∧ wV l k ≤ 16384
theorem Safe.set {l : List Wd} (h : Safe l) (k : Nat) (x : Wd) (hx : x.2 = true → 0 ≤ x.1 ∧ x.1 ≤ 16384) : Safe (l.set k x) := by
  intro j hj
  by_cases hk : k < l.length
  · rw [wC_set j hk] at hj
    rw [wV_set j hk]
    split
    · rename_i e; rw [if_pos e] at hj; exact hx hj
    · rename_i e; rw [if_neg e] at hj; exact h j hj
  · rw [List.set_eq_of_length_le (by omega)] at hj ⊢
    exact h j hj
/-- What every machine keeps to. -/
structure Fine (m : Mach) : Prop where
  sixteen : m.regs.length = 16
  regs : Safe m.regs
  mem : Safe m.mem
  words : ∀ i, i < m.text.length → 0 ≤ nth m.text i ∧ nth m.text i < 4294967296
  text : m.text.length ≤ 16384
  some : 0 < m.text.length
  tape : m.tape.length ≤ 4096
  mlen : m.mem.length ≤ 4096
  pc : m.pc ≤ 16384
  taken : m.taken ≤ m.tape.length
  ports : m.ports.length ≤ m.steps
theorem isIns_ok {v : Int} (h : isIns v = true) : wOp v ≤ 21 ∧ insOK (wOp v) (wD v) (wA v) (wB v) (wN v) = true := by
  simpa [isIns] using h
/-- What a decoded word is. -/
structure InsIn (op d a b n : Int) : Prop where
  o0 : -1 ≤ op
  o1 : op ≤ 21
  d0 : 0 ≤ d
  d1 : d < 16
  a0 : 0 ≤ a
  a1 : a < 16
  b0 : 0 ≤ b
  b1 : b < 16
  n0 : -16384 ≤ n
  n1 : n < 4294967296
  pl : (op = 15 ∨ op = 16 ∨ op = 17 ∨ op = 20) → 0 ≤ n ∧ n < 16384
theorem ins_in {v : Int} (h0 : 0 ≤ v) (h1 : v < 4294967296) : InsIn (dOp v) (dD v) (dA v) (dB v) (dN v) := by
  unfold dOp dD dA dB dN
  by_cases hi : isIns v = true
  · obtain ⟨ho, hk⟩ := isIns_ok hi
    simp only [hi, if_true]
    have n2 : -16384 ≤ wN v ∧ wN v < 32768 := by unfold wN; split <;> rename_i hh <;> simp at hh <;> omega
    have p : hP (wOp v) = true → 0 ≤ wN v ∧ wN v < 16384 := by
      intro hp
      simp only [insOK, Bool.and_eq_true] at hk
      have h4 := hk.2
      have hn : hN (wOp v) = true := by simp [hP, hN] at hp ⊢; omega
      simp [numOK, hn, hp] at h4
      exact h4
    refine ⟨by unfold wOp; omega, ho, by unfold wD; omega, by unfold wD; omega, by unfold wA; omega, by unfold wA; omega, by unfold wB; omega, by unfold wB; omega, by omega, by omega, fun h => ?_⟩
    refine p ?_
    simp [hP]
    omega
  · refine ⟨by simp [hi], by simp [hi], by simp [hi], by simp [hi], by simp [hi], by simp [hi], by simp [hi], by simp [hi], by simp [hi]; omega, by simp [hi]; omega, fun h => by simp [hi] at h⟩
theorem aV_range {m : Mach} {a n : Int} (h : aE m a n = 0) : 0 ≤ aV m a n ∧ aV m a n < m.mem.length := by
  unfold aE addrE at h
  unfold aV addrV
  split at h
  · cases h
  · split at h
    · cases h
    · rename_i h1 h2
      rw [if_neg h1, if_neg h2]
      omega
/-- What a deed leaves as it was, and how far it goes. -/
structure Kept (m : Mach) (r : Did) : Prop where
  fine : Fine (hopM r.m r.to (m.steps + 1))
  text : r.m.text = m.text
  tape : r.m.tape = m.tape
  mlen : r.m.mem.length = m.mem.length
  to : r.to ≤ 16384
  steps : r.m.steps = m.steps
  pc : r.m.pc = m.pc
theorem Fine.with {m : Mach} (h : Fine m) {rs ms : List Wd} {ps : List (Int × Int)} {k t : Nat} {st : Int} (h1 : rs.length = 16) (h2 : Safe rs) (h3 : Safe ms) (h4 : ms.length = m.mem.length) (h5 : k ≤ 16384) (h6 : t ≤ m.tape.length) (h7 : ps.length ≤ m.steps + 1) : Fine ⟨m.text, m.tape, rs, ms, ps, k, m.steps + 1, t, st⟩ :=
  ⟨h1, h2, h3, h.words, h.text, h.some, h.tape, by simpa [h4] using h.mlen, h5, h6, h7⟩
theorem kept_put {m : Mach} (h : Fine m) (hp : m.pc < 16384) (d : Int) (x : Wd) (hx : x.2 = true → 0 ≤ x.1 ∧ x.1 ≤ 16384) : Kept m (putD m d x) :=
  ⟨h.with (by simp [putM, putD, h.sixteen]) (h.regs.set _ _ hx) h.mem rfl (by simp [putD]; omega) h.taken (by have := h.ports; simp [putD, putM]; omega), rfl, rfl, rfl, by simp [putD]; omega, rfl, rfl⟩
theorem kept_go {m : Mach} (h : Fine m) (n : Int) (hn : n ≤ 16384) : Kept m (goD m n) :=
  ⟨h.with h.sixteen h.regs h.mem rfl (by simp [goD]; omega) h.taken (by have := h.ports; simp [goD]; omega), rfl, rfl, rfl, by simp [goD]; omega, rfl, rfl⟩
theorem kept_call {m : Mach} (h : Fine m) (hp : m.pc < 16384) (n : Int) (hn : n ≤ 16384) : Kept m (callD m n) :=
  ⟨h.with (by simp [callD, linkM, putM, h.sixteen]) (h.regs.set _ _ (fun _ => by simp; omega)) h.mem rfl (by simp [callD]; omega) h.taken (by have := h.ports; simp [callD, linkM, putM]; omega), rfl, rfl, rfl, by simp [callD]; omega, rfl, rfl⟩
/-- A deed that does not fault. -/
theorem deed_kept {m : Mach} (h : Fine m) (hp : m.pc < 16384) {op d a b n : Int} (hi : InsIn op d a b n) (he : (deedM m op d a b n).err = 0) : Kept m (deedM m op d a b n) := by
  have hP := h.ports
  unfold deedM at he ⊢
  by_cases c1 : op < 0
  · rw [if_pos c1] at he; cases he
  rw [if_neg c1] at he ⊢
  by_cases c2 : op = 0
  · rw [if_pos c2] at he; cases he
  rw [if_neg c2] at he ⊢
  by_cases c3 : op = 1
  · rw [if_pos c3]; exact kept_put h hp _ _ (fun e => by cases e)
  rw [if_neg c3] at he ⊢
  by_cases c4 : op = 2
  · rw [if_pos c4]; exact kept_put h hp _ _ (fun e => h.regs _ e)
  rw [if_neg c4] at he ⊢
  by_cases c5 : op ≤ 10
  · rw [if_pos c5] at he ⊢
    unfold calcD at he ⊢
    by_cases k : cE m op a b = 0
    · rw [if_pos k]; exact kept_put h hp _ _ (fun e => by cases e)
    · rw [if_neg k] at he; exact absurd he k
  rw [if_neg c5] at he ⊢
  by_cases c6 : op = 11
  · rw [if_pos c6] at he ⊢
    unfold loadD at he ⊢
    by_cases k : aE m a n = 0
    · rw [if_pos k]; exact kept_put h hp _ _ (fun e => h.mem _ e)
    · rw [if_neg k] at he; exact absurd he k
  rw [if_neg c6] at he ⊢
  by_cases c7 : op = 12
  · rw [if_pos c7] at he ⊢
    unfold storeD at he ⊢
    by_cases k : aE m a n = 0
    · rw [if_pos k]
      exact ⟨h.with h.sixteen h.regs (h.mem.set _ _ (fun e => h.regs _ e)) (by simp [storeM]) (by show m.pc + 1 ≤ _; omega) h.taken (by show m.ports.length ≤ _; omega), rfl, rfl, by simp [storeM], by show m.pc + 1 ≤ _; omega, rfl, rfl⟩
    · rw [if_neg k] at he; exact absurd he k
  rw [if_neg c7] at he ⊢
  by_cases c8 : op = 13
  · rw [if_pos c8]
    unfold inD
    by_cases k : m.taken = m.tape.length
    · rw [if_pos k]; exact kept_put h hp _ _ (fun e => by cases e)
    · rw [if_neg k]
      exact ⟨h.with (by simp [putM, takeM, h.sixteen]) (h.regs.set _ _ (fun e => by cases e)) h.mem rfl (by show m.pc + 1 ≤ _; omega) (by have := h.taken; simp [putM, takeM]; omega) (by show m.ports.length ≤ _; omega), rfl, rfl, rfl, by show m.pc + 1 ≤ _; omega, rfl, rfl⟩
  rw [if_neg c8] at he ⊢
  by_cases c9 : op = 14
  · rw [if_pos c9] at he ⊢
    unfold outD at he ⊢
    by_cases k : rC m a = true
    · rw [if_pos k] at he; cases he
    · rw [if_neg k]
      exact ⟨h.with h.sixteen h.regs h.mem rfl (by show m.pc + 1 ≤ _; omega) h.taken (by simp [outM]; omega), rfl, rfl, rfl, by show m.pc + 1 ≤ _; omega, rfl, rfl⟩
  rw [if_neg c9] at he ⊢
  by_cases c10 : op = 15
  · rw [if_pos c10]; exact kept_go h n (by have := hi.pl (by omega); omega)
  rw [if_neg c10] at he ⊢
  by_cases c11 : op = 16
  · rw [if_pos c11] at he ⊢
    unfold zeroD at he ⊢
    by_cases k : rC m a = true
    · rw [if_pos k] at he; cases he
    · rw [if_neg k]
      by_cases k2 : rV m a = 0
      · rw [if_pos k2]; exact kept_go h n (by have := hi.pl (by omega); omega)
      · rw [if_neg k2]
        exact ⟨h.with h.sixteen h.regs h.mem rfl (by show m.pc + 1 ≤ _; omega) h.taken (by show m.ports.length ≤ _; omega), rfl, rfl, rfl, by show m.pc + 1 ≤ _; omega, rfl, rfl⟩
  rw [if_neg c11] at he ⊢
  by_cases c12 : op = 17
  · rw [if_pos c12]; exact kept_call h hp n (by have := hi.pl (by omega); omega)
  rw [if_neg c12] at he ⊢
  by_cases c13 : op = 18
  · rw [if_pos c13] at he ⊢
    unfold callsD at he ⊢
    by_cases k : rC m a = true
    · rw [if_pos k]; exact kept_call h hp _ (h.regs _ k).2
    · rw [if_neg k] at he; cases he
  rw [if_neg c13] at he ⊢
  by_cases c14 : op = 19
  · rw [if_pos c14] at he ⊢
    unfold gotoD at he ⊢
    by_cases k : rC m a = true
    · rw [if_pos k]; exact kept_go h _ (h.regs _ k).2
    · rw [if_neg k] at he; cases he
  rw [if_neg c14] at he ⊢
  by_cases c15 : op = 20
  · rw [if_pos c15]; exact kept_put h hp _ _ (fun _ => by have := hi.pl (by omega); simp; omega)
  rw [if_neg c15]
  exact ⟨h.with h.sixteen h.regs h.mem rfl h.pc h.taken (by show m.ports.length ≤ _; omega), rfl, rfl, rfl, h.pc, rfl, rfl⟩
theorem do_kept {m : Mach} (h : Fine m) (he : (doM m).err = 0) : Kept m (doM m) := by
  unfold doM at he ⊢
  split at he
  · cases he
  · rename_i c
    rw [if_neg c]
    have hT := h.text
    obtain ⟨v0, v1⟩ := h.words m.pc (by omega)
    exact deed_kept h (by omega) (ins_in v0 v1) he
theorem fine_end {m : Mach} (h : Fine m) (f : Int) : Fine (endM m f) := ⟨h.sixteen, h.regs, h.mem, h.words, h.text, h.some, h.tape, h.mlen, h.pc, h.taken, h.ports⟩
theorem fine_step {m : Mach} (h : Fine m) : Fine (stepM m) := by
  unfold stepM
  split
  · split
    · rename_i k; exact (do_kept h k).fine
    · exact fine_end h _
  · exact h
theorem fine_run {m : Mach} (h : Fine m) (k : Nat) : Fine (runM k m) := by
  induction k with
  | zero => exact h
  | succ k ih => rw [run_snoc]; exact fine_step ih
theorem step_steps (m : Mach) : (stepM m).steps = m.steps + 1 ∨ ((stepM m).steps = m.steps ∧ ¬ (stepM m).status = 0) := by
  unfold stepM
  split
  · rename_i h
    split
    · exact .inl rfl
    · rename_i k; exact .inr ⟨rfl, k⟩
  · rename_i h; exact .inr ⟨rfl, h⟩
theorem run_steps (m : Mach) (k : Nat) : m.steps ≤ (runM k m).steps ∧ (runM k m).steps ≤ m.steps + k ∧ ((runM k m).status = 0 → (runM k m).steps = m.steps + k) := by
  induction k with
  | zero => exact ⟨Nat.le_refl _, Nat.le_refl _, fun _ => rfl⟩
  | succ k ih =>
    rw [run_snoc]
    obtain ⟨h1, h2, h3⟩ := ih
    by_cases hs : (runM k m).status = 0
    · rcases step_steps (runM k m) with e | ⟨e, ne⟩
      · rw [e]; have := h3 hs; exact ⟨by omega, by omega, fun _ => by omega⟩
      · rw [e]; exact ⟨by omega, by omega, fun e => absurd e ne⟩
    · rw [step_done hs]; exact ⟨by omega, by omega, fun e => absurd e hs⟩
theorem newM_safe (mem : List Int) : Safe (mem.map (fun v => ((v, false) : Wd))) := by
  intro k h
  unfold wC at h
  simp only [List.getD, List.getElem?_map] at h
  cases hk : mem[k]? <;> simp [hk] at h
theorem newM_regs : Safe (List.replicate 16 ((0, false) : Wd)) := by
  intro k h
  unfold wC at h
  simp only [List.getD, List.getElem?_replicate] at h
  split at h <;> simp at h
theorem newM_fine {text tape mem : List Int} {ent : Int} (hR : ∀ i, i < text.length → 0 ≤ nth text i ∧ nth text i < 4294967296) (h1 : text.length ≤ 16384) (h0 : 0 < text.length) (h2 : tape.length ≤ 4096) (h3 : mem.length ≤ 4096) (he : ent ≤ 16384) : Fine (newM text tape mem ent) :=
  ⟨by simp [newM], newM_regs, newM_safe mem, hR, h1, h0, h2, by simpa [newM] using h3, by simp [newM]; omega, by simp [newM], by simp [newM]⟩






end Go.Proofs.YtfnicgihpelhhaaGreat

namespace Go.Proofs.YtfnicgihpelhhaaGreat
open Go.RowKit

theorem plain_any (v : Int) (w : World) : Calls Tryz.prog 37 #[.int .i64 v] w fun e w' =>
    e = .returned (.agg #[.int .i64 v, .bool false]) ∧ w' = w.alloc (.cells #[.int .i64 v, .bool false] 82) := by
  go_enter Tryz.func37, Tryz.ntmps37
  go_wp2
  simp [bodyPost, results, Tryz.results37, go_sem]

theorem sealed_any (v : Int) (w : World) : Calls Tryz.prog 122 #[.int .i64 v] w fun e w' =>
    e = .returned (.agg #[.int .i64 v, .bool true]) ∧ w' = w.alloc (.cells #[.int .i64 v, .bool true] 82) := by
  go_enter Tryz.func122, Tryz.ntmps122
  go_wp2
  simp [bodyPost, results, Tryz.results122, go_sem]

theorem sealFault_any (b : Bool) (w : World) : Calls Tryz.prog 141 #[.bool b] w fun e w' =>
    e = .returned (.int .i8 (if b then 4 else 0)) ∧ w' = w := by
  cases b
  · go_enter Tryz.func141, Tryz.ntmps141
    go_wp2
    go_ret
    exact ⟨rfl, rfl⟩
  · go_enter Tryz.func141, Tryz.ntmps141
    go_wp2
    go_ret
    exact ⟨rfl, rfl⟩

theorem truth_any (b : Bool) (w : World) : Calls Tryz.prog 139 #[.bool b] w fun e w' =>
    e = .returned (.int .i64 (if b then 1 else 0)) ∧ w' = w := by
  cases b
  · go_enter Tryz.func139, Tryz.ntmps139
    go_wp2
    go_ret
    exact ⟨rfl, rfl⟩
  · go_enter Tryz.func139, Tryz.ntmps139
    go_wp2
    go_ret
    exact ⟨rfl, rfl⟩

theorem wbel_alloc {w w' : World} (h : Below w.heap.size w w') (o : Obj) : Below w.heap.size w (w'.alloc o) := h.alloc h.size o






end Go.Proofs.YtfnicgihpelhhaaGreat

namespace Go.Proofs.YtfnicgihpelhhaaGreat
open Go.RowKit

theorem calc3ff (x y : Int) (w : World) : Calls Tryz.prog 116 #[.int .i8 3, .agg #[.int .i64 x, .bool false], .agg #[.int .i64 y, .bool false]] w fun e w' =>
    e = .returned (.tuple #[.agg #[.int .i64 (wrap64 (x + y)), .bool false], .int .i8 0]) ∧ Below w.heap.size w w' := by
  go_enter Tryz.func116, Tryz.ntmps116
  go_wp2_with (first | (go_at_call 37; refine (plain_any _ _).mono ?_; rintro e w' ⟨rfl, rfl⟩) | go_in)
  all_goals (simp [bodyPost, results, Tryz.results116, go_sem])
  all_goals (repeat (first | exact Below.refl _ _ | refine wbel_alloc ?_ _))
theorem calc3t (x y : Int) (q : Bool) (w : World) : Calls Tryz.prog 116 #[.int .i8 3, .agg #[.int .i64 x, .bool true], .agg #[.int .i64 y, .bool q]] w fun e w' =>
    e = .returned (.tuple #[.agg #[.int .i64 (0), .bool false], .int .i8 4]) ∧ Below w.heap.size w w' := by
  go_enter Tryz.func116, Tryz.ntmps116
  go_wp2_with (first | (go_at_call 37; refine (plain_any _ _).mono ?_; rintro e w' ⟨rfl, rfl⟩) | go_in)
  all_goals (simp [bodyPost, results, Tryz.results116, go_sem])
  all_goals (repeat (first | exact Below.refl _ _ | refine wbel_alloc ?_ _))
theorem calc3ft (x y : Int) (w : World) : Calls Tryz.prog 116 #[.int .i8 3, .agg #[.int .i64 x, .bool false], .agg #[.int .i64 y, .bool true]] w fun e w' =>
    e = .returned (.tuple #[.agg #[.int .i64 (0), .bool false], .int .i8 4]) ∧ Below w.heap.size w w' := by
  go_enter Tryz.func116, Tryz.ntmps116
  go_wp2_with (first | (go_at_call 37; refine (plain_any _ _).mono ?_; rintro e w' ⟨rfl, rfl⟩) | go_in)
  all_goals (simp [bodyPost, results, Tryz.results116, go_sem])
  all_goals (repeat (first | exact Below.refl _ _ | refine wbel_alloc ?_ _))
theorem calc4ff (x y : Int) (w : World) : Calls Tryz.prog 116 #[.int .i8 4, .agg #[.int .i64 x, .bool false], .agg #[.int .i64 y, .bool false]] w fun e w' =>
    e = .returned (.tuple #[.agg #[.int .i64 (wrap64 (x - y)), .bool false], .int .i8 0]) ∧ Below w.heap.size w w' := by
  go_enter Tryz.func116, Tryz.ntmps116
  go_wp2_with (first | (go_at_call 37; refine (plain_any _ _).mono ?_; rintro e w' ⟨rfl, rfl⟩) | go_in)
  all_goals (simp [bodyPost, results, Tryz.results116, go_sem])
  all_goals (repeat (first | exact Below.refl _ _ | refine wbel_alloc ?_ _))
theorem calc4t (x y : Int) (q : Bool) (w : World) : Calls Tryz.prog 116 #[.int .i8 4, .agg #[.int .i64 x, .bool true], .agg #[.int .i64 y, .bool q]] w fun e w' =>
    e = .returned (.tuple #[.agg #[.int .i64 (0), .bool false], .int .i8 4]) ∧ Below w.heap.size w w' := by
  go_enter Tryz.func116, Tryz.ntmps116
  go_wp2_with (first | (go_at_call 37; refine (plain_any _ _).mono ?_; rintro e w' ⟨rfl, rfl⟩) | go_in)
  all_goals (simp [bodyPost, results, Tryz.results116, go_sem])
  all_goals (repeat (first | exact Below.refl _ _ | refine wbel_alloc ?_ _))
theorem calc4ft (x y : Int) (w : World) : Calls Tryz.prog 116 #[.int .i8 4, .agg #[.int .i64 x, .bool false], .agg #[.int .i64 y, .bool true]] w fun e w' =>
    e = .returned (.tuple #[.agg #[.int .i64 (0), .bool false], .int .i8 4]) ∧ Below w.heap.size w w' := by
  go_enter Tryz.func116, Tryz.ntmps116
  go_wp2_with (first | (go_at_call 37; refine (plain_any _ _).mono ?_; rintro e w' ⟨rfl, rfl⟩) | go_in)
  all_goals (simp [bodyPost, results, Tryz.results116, go_sem])
  all_goals (repeat (first | exact Below.refl _ _ | refine wbel_alloc ?_ _))






end Go.Proofs.YtfnicgihpelhhaaGreat

namespace Go.Proofs.YtfnicgihpelhhaaGreat
open Go.RowKit

theorem calc5ff (x y : Int) (w : World) : Calls Tryz.prog 116 #[.int .i8 5, .agg #[.int .i64 x, .bool false], .agg #[.int .i64 y, .bool false]] w fun e w' =>
    e = .returned (.tuple #[.agg #[.int .i64 (wrap64 (x * y)), .bool false], .int .i8 0]) ∧ Below w.heap.size w w' := by
  go_enter Tryz.func116, Tryz.ntmps116
  go_wp2_with (first | (go_at_call 37; refine (plain_any _ _).mono ?_; rintro e w' ⟨rfl, rfl⟩) | go_in)
  all_goals (simp [bodyPost, results, Tryz.results116, go_sem])
  all_goals (repeat (first | exact Below.refl _ _ | refine wbel_alloc ?_ _))
theorem calc5t (x y : Int) (q : Bool) (w : World) : Calls Tryz.prog 116 #[.int .i8 5, .agg #[.int .i64 x, .bool true], .agg #[.int .i64 y, .bool q]] w fun e w' =>
    e = .returned (.tuple #[.agg #[.int .i64 (0), .bool false], .int .i8 4]) ∧ Below w.heap.size w w' := by
  go_enter Tryz.func116, Tryz.ntmps116
  go_wp2_with (first | (go_at_call 37; refine (plain_any _ _).mono ?_; rintro e w' ⟨rfl, rfl⟩) | go_in)
  all_goals (simp [bodyPost, results, Tryz.results116, go_sem])
  all_goals (repeat (first | exact Below.refl _ _ | refine wbel_alloc ?_ _))
theorem calc5ft (x y : Int) (w : World) : Calls Tryz.prog 116 #[.int .i8 5, .agg #[.int .i64 x, .bool false], .agg #[.int .i64 y, .bool true]] w fun e w' =>
    e = .returned (.tuple #[.agg #[.int .i64 (0), .bool false], .int .i8 4]) ∧ Below w.heap.size w w' := by
  go_enter Tryz.func116, Tryz.ntmps116
  go_wp2_with (first | (go_at_call 37; refine (plain_any _ _).mono ?_; rintro e w' ⟨rfl, rfl⟩) | go_in)
  all_goals (simp [bodyPost, results, Tryz.results116, go_sem])
  all_goals (repeat (first | exact Below.refl _ _ | refine wbel_alloc ?_ _))
theorem calc6ff (x y : Int) (w : World) : Calls Tryz.prog 116 #[.int .i8 6, .agg #[.int .i64 x, .bool false], .agg #[.int .i64 y, .bool false]] w fun e w' =>
    e = .returned (.tuple #[.agg #[.int .i64 (bits BinOp.and IntKind.i64 x y), .bool false], .int .i8 0]) ∧ Below w.heap.size w w' := by
  go_enter Tryz.func116, Tryz.ntmps116
  go_wp2_with (first | (go_at_call 37; refine (plain_any _ _).mono ?_; rintro e w' ⟨rfl, rfl⟩) | go_in)
  all_goals (simp [bodyPost, results, Tryz.results116, go_sem])
  all_goals (repeat (first | exact Below.refl _ _ | refine wbel_alloc ?_ _))
theorem calc6t (x y : Int) (q : Bool) (w : World) : Calls Tryz.prog 116 #[.int .i8 6, .agg #[.int .i64 x, .bool true], .agg #[.int .i64 y, .bool q]] w fun e w' =>
    e = .returned (.tuple #[.agg #[.int .i64 (0), .bool false], .int .i8 4]) ∧ Below w.heap.size w w' := by
  go_enter Tryz.func116, Tryz.ntmps116
  go_wp2_with (first | (go_at_call 37; refine (plain_any _ _).mono ?_; rintro e w' ⟨rfl, rfl⟩) | go_in)
  all_goals (simp [bodyPost, results, Tryz.results116, go_sem])
  all_goals (repeat (first | exact Below.refl _ _ | refine wbel_alloc ?_ _))
theorem calc6ft (x y : Int) (w : World) : Calls Tryz.prog 116 #[.int .i8 6, .agg #[.int .i64 x, .bool false], .agg #[.int .i64 y, .bool true]] w fun e w' =>
    e = .returned (.tuple #[.agg #[.int .i64 (0), .bool false], .int .i8 4]) ∧ Below w.heap.size w w' := by
  go_enter Tryz.func116, Tryz.ntmps116
  go_wp2_with (first | (go_at_call 37; refine (plain_any _ _).mono ?_; rintro e w' ⟨rfl, rfl⟩) | go_in)
  all_goals (simp [bodyPost, results, Tryz.results116, go_sem])
  all_goals (repeat (first | exact Below.refl _ _ | refine wbel_alloc ?_ _))






end Go.Proofs.YtfnicgihpelhhaaGreat
