/-
  The program's machine, as it lies in memory. What is asked of a machine of the program's: made, Status, At, Steps, Taken, Register, the numbers and places of registers. Rows of words and ports, cloned; Memory and Ports of the program's machine. Rows of words and of ports, held against each other.
-/
import Derived.Test.YtfnicgihpelhhaaGreatProg
import Derived.WalkKit
import Derived.WalkSpells
import Derived.WalkLawsBesides
import Derived.RowKit3
import Derived.Below
import Derived.Deep.QuietTactic
import Derived.BigQuiet
import Derived.WalkSmall
import Derived.Laws.Rows
import Derived.Deep.RegionHeld3
import Derived.Laws.Pointers
import Derived.Outline
import Derived.StillTactics
import Derived.Test.YtfnicgihpelhhaaGreatPd20
import Derived.Test.YtfnicgihpelhhaaGreatPd16
import Derived.Test.YtfnicgihpelhhaaGreatPd04
import Derived.Test.YtfnicgihpelhhaaGreatPd09
namespace Go.Proofs.YtfnicgihpelhhaaGreat
open Go.RowKit

/-- The cells of words, of ports, of instructions. -/
def wVals (l : List Wd) : List Value := l.flatMap fun x => [.int .i64 x.1, .bool x.2]
def pVals (l : List (Int × Int)) : List Value := l.flatMap fun x => [.int .i64 x.1, .int .i64 x.2]
def nVals (l : List Int) : List Value := l.flatMap fun v => [.int .i8 (dOp v), .int .i8 (dD v), .int .i8 (dA v), .int .i8 (dB v), .int .i64 (dN v)]
theorem wVals_len (l : List Wd) : (wVals l).length = l.length * 2 := by
  induction l with
  | nil => rfl
  | cons x l ih => simp only [wVals, List.flatMap_cons, List.length_append, List.length_cons, List.length_nil] at ih ⊢; omega
theorem pVals_len (l : List (Int × Int)) : (pVals l).length = l.length * 2 := by
  induction l with
  | nil => rfl
  | cons x l ih => simp only [pVals, List.flatMap_cons, List.length_append, List.length_cons, List.length_nil] at ih ⊢; omega
theorem nVals_len (l : List Int) : (nVals l).length = l.length * 5 := by
  induction l with
  | nil => rfl
  | cons x l ih => simp only [nVals, List.flatMap_cons, List.length_append, List.length_cons, List.length_nil] at ih ⊢; omega
theorem wVals_get {l : List Wd} {k : Nat} (h : k < l.length) : (wVals l)[k * 2]? = some (.int .i64 (wV l k)) ∧ (wVals l)[k * 2 + 1]? = some (.bool (wC l k)) := by
  induction l generalizing k with
  | nil => simp at h
  | cons x l ih =>
    cases k with
    | zero => exact ⟨rfl, rfl⟩
    | succ k =>
      obtain ⟨h1, h2⟩ := ih (k := k) (by simpa using h)
      rw [show (k + 1) * 2 = k * 2 + 1 + 1 by omega]
      exact ⟨h1, h2⟩
theorem pVals_get {l : List (Int × Int)} {k : Nat} (h : k < l.length) : (pVals l)[k * 2]? = some (.int .i64 (rAt l k)) ∧ (pVals l)[k * 2 + 1]? = some (.int .i64 (rSym l k)) := by
  induction l generalizing k with
  | nil => simp at h
  | cons x l ih =>
    cases k with
    | zero => exact ⟨rfl, rfl⟩
    | succ k =>
      obtain ⟨h1, h2⟩ := ih (k := k) (by simpa using h)
      rw [show (k + 1) * 2 = k * 2 + 1 + 1 by omega]
      exact ⟨h1, h2⟩
theorem nVals_get {l : List Int} {k : Nat} (h : k < l.length) : (nVals l)[k * 5]? = some (.int .i8 (dOp (nth l k))) ∧ (nVals l)[k * 5 + 1]? = some (.int .i8 (dD (nth l k))) ∧ (nVals l)[k * 5 + 2]? = some (.int .i8 (dA (nth l k))) ∧ (nVals l)[k * 5 + 3]? = some (.int .i8 (dB (nth l k))) ∧ (nVals l)[k * 5 + 4]? = some (.int .i64 (dN (nth l k))) := by
  induction l generalizing k with
  | nil => simp at h
  | cons x l ih =>
    cases k with
    | zero => exact ⟨rfl, rfl, rfl, rfl, rfl⟩
    | succ k =>
      obtain ⟨h1, h2, h3, h4, h5⟩ := ih (k := k) (by simpa using h)
      rw [show (k + 1) * 5 = k * 5 + 1 + 1 + 1 + 1 + 1 by omega]
      exact ⟨h1, h2, h3, h4, h5⟩
theorem wVals_set {l : List Wd} {k : Nat} (x : Wd) : ((wVals l).set (k * 2) (.int .i64 x.1)).set (k * 2 + 1) (.bool x.2) = wVals (l.set k x) := by
  induction l generalizing k with
  | nil => rfl
  | cons y l ih =>
    cases k with
    | zero => rfl
    | succ k =>
      rw [show (k + 1) * 2 = k * 2 + 1 + 1 by omega]
      show Value.int .i64 y.1 :: Value.bool y.2 :: (((wVals l).set (k * 2) _).set (k * 2 + 1) _) = _
      rw [ih]
      rfl
theorem wVals_snoc (l : List Wd) (x : Wd) : wVals (l ++ [x]) = wVals l ++ [.int .i64 x.1, .bool x.2] := by simp [wVals]
theorem pVals_snoc (l : List (Int × Int)) (x : Int × Int) : pVals (l ++ [x]) = pVals l ++ [.int .i64 x.1, .int .i64 x.2] := by simp [pVals]
theorem nVals_snoc (l : List Int) (v : Int) : nVals (l ++ [v]) = nVals l ++ [.int .i8 (dOp v), .int .i8 (dD v), .int .i8 (dA v), .int .i8 (dB v), .int .i64 (dN v)] := by simp [nVals]

/-- Where the lists of a machine lie. -/
structure Loc where
  T : Option Addr
  tc : Nat
  X : Option Addr
  xc : Nat
  M : Option Addr
  mc : Nat
  V : Value
/-- The cells ahead of the registers, and behind them. -/
def hdM (s : Loc) (m : Mach) : List Value := [.slice s.T m.text.length s.tc, .slice s.X m.tape.length s.xc]
def tlM (s : Loc) (m : Mach) : List Value := [.slice s.M m.mem.length s.mc, s.V, .int .i64 m.pc, .int .i64 m.steps, .int .i64 m.taken, .int .i8 m.status]
def boxM (s : Loc) (m : Mach) : Array Value := (hdM s m ++ (wVals m.regs ++ tlM s m)).toArray
/-- A machine of the program's. -/
structure PAt (w : World) (base P : Nat) (s : Loc) (m : Mach) : Prop where
  box : w.heap[P]? = some (.cells (boxM s m) 87 (0, 0))
  bP : base ≤ P
  text : w.ownsRow base 50 5 (.slice s.T m.text.length s.tc) m.text.length (nVals m.text)
  tape : w.ownsRow base 2 1 (.slice s.X m.tape.length s.xc) m.tape.length (iVals .i64 m.tape)
  mem : w.ownsRow base 82 2 (.slice s.M m.mem.length s.mc) m.mem.length (wVals m.mem)
  ports : w.ownsRow base 118 2 s.V m.ports.length (pVals m.ports)
/-- The blocks of a machine. -/
def aB (A : Option Addr) : Option Nat := A.map Addr.block
theorem own_aB (A : Option Addr) (n c : Nat) : (Value.slice A n c).ownBlock = aB A := by cases A <;> rfl
def Foot (s : Loc) (P b : Nat) : Prop := b = P ∨ aB s.T = some b ∨ aB s.X = some b ∨ aB s.M = some b ∨ s.V.ownBlock = some b
/-- Nothing is other but blocks of F, and what is new. -/
structure Upto (F : Nat → Prop) (w w' : World) : Prop where
  os : w'.os = w.os
  tape : w'.tape = w.tape
  output : w'.output = w.output
  size : w.heap.size ≤ w'.heap.size
  block : ∀ b, b < w.heap.size → ¬ F b → w'.heap[b]? = w.heap[b]?
theorem Upto.refl (F : Nat → Prop) (w : World) : Upto F w w := ⟨rfl, rfl, rfl, Nat.le_refl _, fun _ _ _ => rfl⟩
theorem Upto.of {F : Nat → Prop} {w w' : World} (h : Below w.heap.size w w') : Upto F w w' := ⟨h.os, h.tape, h.output, h.size, fun b hb _ => h.block b hb⟩
theorem Upto.trans {F : Nat → Prop} {a b c : World} (h : Upto F a b) (k : Upto F b c) : Upto F a c :=
  ⟨k.os.trans h.os, k.tape.trans h.tape, k.output.trans h.output, Nat.le_trans h.size k.size, fun x hx hn => (k.block x (Nat.lt_of_lt_of_le hx h.size) hn).trans (h.block x hx hn)⟩
/-- Behind a call that may have gone to new blocks. -/
theorem Upto.on {F G : Nat → Prop} {a b c : World} (h : Upto F a b) (k : Upto G b c) (hG : ∀ x, G x → F x ∨ a.heap.size ≤ x) : Upto F a c :=
  ⟨k.os.trans h.os, k.tape.trans h.tape, k.output.trans h.output, Nat.le_trans h.size k.size, fun x hx hn => (k.block x (Nat.lt_of_lt_of_le hx h.size) (fun g => by rcases hG x g with f | f; exact hn f; omega)).trans (h.block x hx hn)⟩
theorem Upto.drew {F : Nat → Prop} {a b : World} (h : Upto F a b) : Upto F a b.drew := ⟨h.os, h.tape, h.output, h.size, h.block⟩
theorem Upto.drewN {F : Nat → Prop} {a b : World} (h : Upto F a b) (n : Nat) : Upto F a (b.drewN n) := ⟨h.os, h.tape, h.output, h.size, h.block⟩
theorem Upto.alloc {F : Nat → Prop} {a b : World} (h : Upto F a b) (o : Obj) : Upto F a (b.alloc o) := h.trans (Upto.of (lb_alloc (Below.refl _ _) o))
theorem Upto.below {F : Nat → Prop} {w0 w w' : World} (h : Upto F w w') (hb : Below w0.heap.size w0 w) (hF : ∀ b, F b → w0.heap.size ≤ b) : Below w0.heap.size w0 w' :=
  ⟨h.os.trans hb.os, h.tape.trans hb.tape, h.output.trans hb.output, Nat.le_trans hb.size h.size, fun b hlt => (h.block b (Nat.lt_of_lt_of_le hlt hb.size) (fun hp => by have := hF b hp; omega)).trans (hb.block b hlt)⟩
theorem own_stay {w w' : World} {base : Nat} {e : TypeId} {size : Nat} {v : Value} {n : Nat} {xs : List Value} (h : w.ownsRow base e size v n xs) (hs : ∀ b, v.ownBlock = some b → w'.heap[b]? = w.heap[b]?) : w'.ownsRow base e size v n xs := by
  refine ⟨h.1, ?_⟩
  rcases h.2 with h1 | ⟨g, cap, cur, rfl, h2, hg, h3⟩
  · exact .inl h1
  · exact .inr ⟨g, cap, cur, rfl, h2, by rw [hs g rfl]; exact hg, h3⟩
theorem own_in {w : World} {base : Nat} {e : TypeId} {size : Nat} {v : Value} {n : Nat} {xs : List Value} (h : w.ownsRow base e size v n xs) {b : Nat} (hb : v.ownBlock = some b) : base ≤ b ∧ b < w.heap.size := h.lt b hb
theorem PAt.lt {w : World} {base P : Nat} {s : Loc} {m : Mach} (h : PAt w base P s m) : P < w.heap.size := (Array.getElem?_eq_some_iff.1 h.box).1
/-- Every block of a machine is one of the memory, from base on. -/
theorem PAt.foot {w : World} {base P : Nat} {s : Loc} {m : Mach} (h : PAt w base P s m) {b : Nat} (hb : Foot s P b) : base ≤ b ∧ b < w.heap.size := by
  rcases hb with rfl | e | e | e | e
  · exact ⟨h.bP, h.lt⟩
  · exact own_in h.text ((own_aB _ _ _).trans e)
  · exact own_in h.tape ((own_aB _ _ _).trans e)
  · exact own_in h.mem ((own_aB _ _ _).trans e)
  · exact own_in h.ports e
/-- A machine stays where its blocks do. -/
theorem PAt.stay {w w' : World} {base P : Nat} {s : Loc} {m : Mach} (h : PAt w base P s m) (hs : ∀ b, Foot s P b → w'.heap[b]? = w.heap[b]?) : PAt w' base P s m :=
  ⟨(hs P (.inl rfl)).trans h.box, h.bP, own_stay h.text fun b e => hs b (.inr (.inl ((own_aB _ _ _).symm.trans e))), own_stay h.tape fun b e => hs b (.inr (.inr (.inl ((own_aB _ _ _).symm.trans e)))), own_stay h.mem fun b e => hs b (.inr (.inr (.inr (.inl ((own_aB _ _ _).symm.trans e))))), own_stay h.ports fun b e => hs b (.inr (.inr (.inr (.inr e))))⟩
theorem PAt.keep {w w' : World} {base P : Nat} {s : Loc} {m : Mach} (h : PAt w base P s m) (hb : Below w.heap.size w w') : PAt w' base P s m := h.stay fun b hf => hb.block b (h.foot hf).2
theorem PAt.other {w w' : World} {base P : Nat} {s : Loc} {m : Mach} {F : Nat → Prop} (h : PAt w base P s m) (hu : Upto F w w') (hd : ∀ b, Foot s P b → ¬ F b) : PAt w' base P s m := h.stay fun b hf => hu.block b (h.foot hf).2 (hd b hf)
theorem PAt.drew {w : World} {base P : Nat} {s : Loc} {m : Mach} (h : PAt w base P s m) : PAt w.drew base P s m := h.stay fun _ _ => rfl
theorem PAt.drewN {w : World} {base P : Nat} {s : Loc} {m : Mach} (h : PAt w base P s m) (n : Nat) : PAt (w.drewN n) base P s m := h.stay fun _ _ => rfl
theorem PAt.alloc {w : World} {base P : Nat} {s : Loc} {m : Mach} (h : PAt w base P s m) (o : Obj) : PAt (w.alloc o) base P s m := h.keep (lb_alloc (Below.refl _ _) o)
section
variable {w : World} {base P : Nat} {s : Loc} {m : Mach}
theorem boxM_hd (s : Loc) (m : Mach) : (boxM s m)[0]? = some (.slice s.T m.text.length s.tc) ∧ (boxM s m)[1]? = some (.slice s.X m.tape.length s.xc) := ⟨by simp [boxM, hdM], by simp [boxM, hdM]⟩
theorem boxM_reg (s : Loc) (m : Mach) (h : m.regs.length = 16) {k : Nat} (hk : k < 16) : (boxM s m)[2 + k * 2]? = some (.int .i64 (wV m.regs k)) ∧ (boxM s m)[2 + k * 2 + 1]? = some (.bool (wC m.regs k)) := by
  obtain ⟨h1, h2⟩ := wVals_get (l := m.regs) (k := k) (by omega)
  have hl := wVals_len m.regs
  have e1 : (boxM s m)[2 + k * 2]? = (wVals m.regs)[k * 2]? := by
    simp only [boxM, List.getElem?_toArray]
    rw [List.getElem?_append_right (by simp [hdM]), List.getElem?_append_left (by simp [hdM]; omega)]
    congr 1; simp [hdM]
  have e2 : (boxM s m)[2 + k * 2 + 1]? = (wVals m.regs)[k * 2 + 1]? := by
    simp only [boxM, List.getElem?_toArray]
    rw [List.getElem?_append_right (by simp [hdM]; omega), List.getElem?_append_left (by simp [hdM]; omega)]
    congr 1; simp [hdM]; omega
  exact ⟨e1.trans h1, e2.trans h2⟩
theorem boxM_tl (s : Loc) (m : Mach) (h : m.regs.length = 16) (k : Nat) : (boxM s m)[34 + k]? = (tlM s m)[k]? := by
  have hl := wVals_len m.regs
  simp only [boxM, List.getElem?_toArray]
  rw [List.getElem?_append_right (by simp [hdM]; omega), List.getElem?_append_right (by simp [hdM]; omega)]
  congr 1; simp [hdM]; omega
theorem box_at {w : World} {B : Nat} {cs : Array Value} {t : TypeId} (h : w.heap[B]? = some (.cells cs t (0, 0))) {i : Nat} {v : Value} (hv : cs[i]? = some v) : w.cell? ⟨B, i, none⟩ = some v := by
  simp [World.cell?, h, hv]
theorem add_at (B o i : Nat) : (⟨B, o, none⟩ : Addr).add i = ⟨B, o + i, none⟩ := by
  unfold Addr.add
  split <;> simp_all
/-- What the cells hold. -/
theorem PAt.cells (h : PAt w base P s m) (hf : m.regs.length = 16) :
    w.cell? ⟨P, 0, none⟩ = some (.slice s.T m.text.length s.tc) ∧ w.cell? ⟨P, 1, none⟩ = some (.slice s.X m.tape.length s.xc) ∧ w.cell? ⟨P, 34, none⟩ = some (.slice s.M m.mem.length s.mc) ∧ w.cell? ⟨P, 35, none⟩ = some s.V ∧
    w.cell? ⟨P, 36, none⟩ = some (.int .i64 m.pc) ∧ w.cell? ⟨P, 37, none⟩ = some (.int .i64 m.steps) ∧ w.cell? ⟨P, 38, none⟩ = some (.int .i64 m.taken) ∧ w.cell? ⟨P, 39, none⟩ = some (.int .i8 m.status) :=
  ⟨box_at h.box (boxM_hd s m).1, box_at h.box (boxM_hd s m).2, box_at h.box (boxM_tl s m hf 0), box_at h.box (boxM_tl s m hf 1), box_at h.box (boxM_tl s m hf 2), box_at h.box (boxM_tl s m hf 3), box_at h.box (boxM_tl s m hf 4), box_at h.box (boxM_tl s m hf 5)⟩
theorem PAt.reg (h : PAt w base P s m) (hf : m.regs.length = 16) {k : Nat} (hk : k < 16) :
    w.cell? ⟨P, 2 + k * 2, none⟩ = some (.int .i64 (wV m.regs k)) ∧ w.cell? ⟨P, 2 + k * 2 + 1, none⟩ = some (.bool (wC m.regs k)) := by
  obtain ⟨h1, h2⟩ := boxM_reg s m hf hk
  exact ⟨box_at h.box h1, box_at h.box h2⟩
theorem PAt.fro (h : PAt w base P s m) (i : Nat) : w.frozen? ⟨P, i, none⟩ = false := box_fro h.box i
end





end Go.Proofs.YtfnicgihpelhhaaGreat

namespace Go.Proofs.YtfnicgihpelhhaaGreat
open Go.RowKit

/-- What a step gives up with. -/
def stopM (f : Int) : Ending := .panicked [{ v := .iface 113 (.int .i8 f), recovered := false }]
section
variable {w : World} {base P : Nat} {s : Loc} {m : Mach}
theorem made_yes (h : PAt w base P s m) (hm : Fine m) : Calls Tryz.prog 62 #[.pointer (some ⟨P, 0, none⟩)] w fun e w' => e = .returned (.bool true) ∧ w' = w := by
  obtain ⟨c0, -⟩ := h.cells hm.sixteen
  have hl := hm.some
  go_enter Tryz.func62, Tryz.ntmps62
  go_wp2
  go_ret
  exact ⟨rfl, rfl⟩
theorem status_yes (h : PAt w base P s m) (hm : Fine m) : Calls Tryz.prog 63 #[.pointer (some ⟨P, 0, none⟩)] w fun e w' => e = .returned (.int .i8 m.status) ∧ w' = w := by
  have C := made_yes h hm
  obtain ⟨c0, c1, c34, c35, c36, c37, c38, c39⟩ := h.cells hm.sixteen
  clear h
  go_enter Tryz.func63, Tryz.ntmps63
  go_wp2_with fail
  refine C.mono ?_
  rintro e w1 ⟨rfl, rfl⟩
  go_wp2
  go_ret
  exact ⟨rfl, rfl⟩
theorem at_yes (h : PAt w base P s m) (hm : Fine m) : Calls Tryz.prog 39 #[.pointer (some ⟨P, 0, none⟩)] w fun e w' => e = .returned (.int .i64 m.pc) ∧ w' = w := by
  have C := made_yes h hm
  obtain ⟨c0, c1, c34, c35, c36, c37, c38, c39⟩ := h.cells hm.sixteen
  clear h
  go_enter Tryz.func39, Tryz.ntmps39
  go_wp2_with fail
  refine C.mono ?_
  rintro e w1 ⟨rfl, rfl⟩
  go_wp2
  go_ret
  exact ⟨rfl, rfl⟩
theorem number_no (h : PAt w base P s m) (hm : Fine m) (r : Nat) (hr : r < 16) (hc : wC m.regs r = true) : Calls Tryz.prog 119 #[.pointer (some ⟨P, 0, none⟩), .int .i8 r] w fun e w' => e = stopM 4 ∧ Below w.heap.size w w' := by
  obtain ⟨d0, d1⟩ := h.reg hm.sixteen hr
  rw [hc] at d1
  clear h
  go_enter Tryz.func119, Tryz.ntmps119
  go_wp2
  exact ⟨rfl, rfl, lb_alloc (Below.refl _ _) _⟩
theorem number_yes (h : PAt w base P s m) (hm : Fine m) (r : Nat) (hr : r < 16) (hc : wC m.regs r = false) : Calls Tryz.prog 119 #[.pointer (some ⟨P, 0, none⟩), .int .i8 r] w fun e w' => e = .returned (.int .i64 (wV m.regs r)) ∧ Below w.heap.size w w' := by
  obtain ⟨d0, d1⟩ := h.reg hm.sixteen hr
  rw [hc] at d1
  clear h
  go_enter Tryz.func119, Tryz.ntmps119
  go_wp2
  go_ret
  exact ⟨rfl, lb_alloc (Below.refl _ _) _⟩
theorem goal_no (h : PAt w base P s m) (hm : Fine m) (r : Nat) (hr : r < 16) (hc : wC m.regs r = false) : Calls Tryz.prog 121 #[.pointer (some ⟨P, 0, none⟩), .int .i8 r] w fun e w' => e = stopM 4 ∧ Below w.heap.size w w' := by
  obtain ⟨d0, d1⟩ := h.reg hm.sixteen hr
  rw [hc] at d1
  clear h
  go_enter Tryz.func121, Tryz.ntmps121
  go_wp2
  exact ⟨rfl, rfl, lb_alloc (Below.refl _ _) _⟩
theorem goal_yes (h : PAt w base P s m) (hm : Fine m) (r : Nat) (hr : r < 16) (hc : wC m.regs r = true) : Calls Tryz.prog 121 #[.pointer (some ⟨P, 0, none⟩), .int .i8 r] w fun e w' => e = .returned (.int .i64 (wV m.regs r)) ∧ Below w.heap.size w w' := by
  obtain ⟨d0, d1⟩ := h.reg hm.sixteen hr
  rw [hc] at d1
  clear h
  go_enter Tryz.func121, Tryz.ntmps121
  go_wp2
  go_ret
  exact ⟨rfl, lb_alloc (Below.refl _ _) _⟩
end
theorem raise_yes (w : World) : Calls Tryz.prog 117 #[.int .i8 0] w fun e w' => e = .returned (.tuple #[]) ∧ w' = w := by
  go_enter Tryz.func117, Tryz.ntmps117
  go_wp2
  go_end0
  exact ⟨rfl, rfl⟩
theorem raise_no (f : Int) (hf : ¬ f = 0) (w : World) : Calls Tryz.prog 117 #[.int .i8 f] w fun e w' => e = stopM f ∧ w' = w := by
  have hf' : (f == 0) = false := by simpa using hf
  go_enter Tryz.func117, Tryz.ntmps117
  go_wp2
  exact ⟨rfl, rfl, rfl⟩
section
variable {w : World} {base P : Nat} {s : Loc} {m : Mach}
theorem set_mid {hd W tl : List Value} {n i : Nat} (v : Value) (hn : n = hd.length + i) (hi : i < W.length) : (hd ++ (W ++ tl)).set n v = hd ++ (W.set i v ++ tl) := by
  subst hn
  rw [List.set_append_right _ _ (by omega), show hd.length + i - hd.length = i by omega, List.set_append_left _ _ hi]
theorem set_tail {hd W tl : List Value} {n i : Nat} (v : Value) (hn : n = hd.length + W.length + i) : (hd ++ (W ++ tl)).set n v = hd ++ (W ++ tl.set i v) := by
  subst hn
  rw [List.set_append_right _ _ (by omega), List.set_append_right _ _ (by omega), show hd.length + W.length + i - hd.length - W.length = i by omega]
theorem boxM_put (s : Loc) (m : Mach) (h : m.regs.length = 16) {k : Nat} (hk : k < 16) (x : Wd) : ((boxM s m).setIfInBounds (2 + k * 2) (.int .i64 x.1)).setIfInBounds (2 + k * 2 + 1) (.bool x.2) = boxM s (putM m k x) := by
  have hl := wVals_len m.regs
  have e := wVals_set (l := m.regs) (k := k) x
  simp only [boxM, List.setIfInBounds_toArray]
  rw [set_mid (i := k * 2) _ (by simp [hdM]) (by omega), set_mid (i := k * 2 + 1) _ (by simp [hdM]; omega) (by simp; omega), e]
  simp [putM, hdM, tlM]
theorem boxM_at (s : Loc) (m : Mach) (h : m.regs.length = 16) (k : Nat) (v : Value) : (boxM s m).setIfInBounds (34 + k) v = (hdM s m ++ (wVals m.regs ++ (tlM s m).set k v)).toArray := by
  have hl := wVals_len m.regs
  simp only [boxM, List.setIfInBounds_toArray]
  rw [set_tail (i := k) _ (by simp [hdM]; omega)]
theorem own_ne {e t : TypeId} {size n b : Nat} {v : Value} {xs : List Value} {cs : Array Value} (h : w.ownsRow base e size v n xs) (hv : v.ownBlock = some b) (hp : w.heap[P]? = some (.cells cs t (0, 0))) (ne : e ≠ t) : b ≠ P := by
  rintro rfl
  rcases h.2 with ⟨rfl, -⟩ | ⟨g, cap, cur, rfl, -, hg, -⟩
  · cases hv
  · simp only [Value.ownBlock, Option.some.injEq] at hv
    subst hv
    rw [hg] at hp
    cases hp
    exact ne rfl
/-- The box alone is other. -/
theorem PAt.rebox {w' : World} {m' : Mach} (h : PAt w base P s m) (hb : w'.heap[P]? = some (.cells (boxM s m') 87 (0, 0))) (ho : ∀ b, b ≠ P → w'.heap[b]? = w.heap[b]?) (e1 : m'.text = m.text) (e2 : m'.tape = m.tape) (e3 : m'.mem = m.mem) (e4 : m'.ports = m.ports) : PAt w' base P s m' :=
  ⟨hb, h.bP, by rw [e1]; exact own_stay h.text fun b e => ho b (own_ne h.text e h.box (by decide)), by rw [e2]; exact own_stay h.tape fun b e => ho b (own_ne h.tape e h.box (by decide)), by rw [e3]; exact own_stay h.mem fun b e => ho b (own_ne h.mem e h.box (by decide)), by rw [e4]; exact own_stay h.ports fun b e => ho b (own_ne h.ports e h.box (by decide))⟩
theorem PAt.put (h : PAt w base P s m) (hm : m.regs.length = 16) {k : Nat} (hk : k < 16) (x : Wd) : PAt ((w.setCell ⟨P, 2 + k * 2, none⟩ (.int .i64 x.1)).setCell ⟨P, 2 + k * 2 + 1, none⟩ (.bool x.2)) base P s (putM m k x) := by
  refine h.rebox ?_ (fun b hb => (Below.heap_setCell _ _ _ _ hb).trans (Below.heap_setCell _ _ _ _ hb)) rfl rfl rfl rfl
  rw [← boxM_put s m hm hk x]
  exact box_set (box_set h.box _ _) _ _
theorem Upto.set {F : Nat → Prop} {a b : World} (h : Upto F a b) {B : Nat} (hB : F B ∨ a.heap.size ≤ B) (i : Nat) (v : Value) : Upto F a (b.setCell ⟨B, i, none⟩ v) :=
  ⟨h.os, h.tape, h.output, by simpa [go_sem] using h.size, fun x hx hn => (Below.heap_setCell _ _ _ _ (fun e => by subst e; rcases hB with f | f; exact hn f; omega)).trans (h.block x hx hn)⟩
theorem put_any (h : PAt w base P s m) (hm : Fine m) (r : Nat) (hr : r < 16) (x : Wd) : Calls Tryz.prog 115 #[.pointer (some ⟨P, 0, none⟩), .int .i8 r, .agg #[.int .i64 x.1, .bool x.2]] w fun e w' => e = .returned (.int .i64 ((m.pc : Int) + 1)) ∧ PAt w' base P s (putM m r x) ∧ Upto (Foot s P) w w' := by
  have hq := ((h.put hm.sixteen hr x).alloc (.cells #[.int .i64 x.1, .bool x.2] 82)).drew
  obtain ⟨d0, d1⟩ := h.reg hm.sixteen hr
  obtain ⟨c0, c1, c34, c35, c36, c37, c38, c39⟩ := h.cells hm.sixteen
  have f0 := h.fro (2 + r * 2)
  have f1 := h.fro (2 + r * 2 + 1)
  have hP := h.lt
  have hpc := hm.pc
  clear h
  go_enter Tryz.func115, Tryz.ntmps115
  go_wp2_with fail
  go_region
  all_goals (
    go_wp2
    go_ret
    exact ⟨rfl, hq, ((((Upto.refl _ _).set (Or.inl (Or.inl rfl)) _ _).set (Or.inl (Or.inl rfl)) _ _).alloc _).drew⟩)
/-- Single cells behind the registers. -/
theorem PAt.pc (h : PAt w base P s m) (hm : m.regs.length = 16) (k : Nat) : PAt (w.setCell ⟨P, 36, none⟩ (.int .i64 k)) base P s { m with pc := k } := by
  refine h.rebox ?_ (fun b hb => Below.heap_setCell _ _ _ _ hb) rfl rfl rfl rfl
  rw [box_set h.box, show 36 = 34 + 2 from rfl, boxM_at s m hm]
  rfl
theorem PAt.steps (h : PAt w base P s m) (hm : m.regs.length = 16) (k : Nat) : PAt (w.setCell ⟨P, 37, none⟩ (.int .i64 k)) base P s { m with steps := k } := by
  refine h.rebox ?_ (fun b hb => Below.heap_setCell _ _ _ _ hb) rfl rfl rfl rfl
  rw [box_set h.box, show 37 = 34 + 3 from rfl, boxM_at s m hm]
  rfl
theorem PAt.taken (h : PAt w base P s m) (hm : m.regs.length = 16) (k : Nat) : PAt (w.setCell ⟨P, 38, none⟩ (.int .i64 k)) base P s { m with taken := k } := by
  refine h.rebox ?_ (fun b hb => Below.heap_setCell _ _ _ _ hb) rfl rfl rfl rfl
  rw [box_set h.box, show 38 = 34 + 4 from rfl, boxM_at s m hm]
  rfl
theorem PAt.status (h : PAt w base P s m) (hm : m.regs.length = 16) (k : Int) : PAt (w.setCell ⟨P, 39, none⟩ (.int .i8 k)) base P s { m with status := k } := by
  refine h.rebox ?_ (fun b hb => Below.heap_setCell _ _ _ _ hb) rfl rfl rfl rfl
  rw [box_set h.box, show 39 = 34 + 5 from rfl, boxM_at s m hm]
  rfl
end





end Go.Proofs.YtfnicgihpelhhaaGreat

namespace Go.Proofs.YtfnicgihpelhhaaGreat
open Go.RowKit

theorem bs_w (w : World) : (Instr.buildSlice 84 0 #[]).run Tryz.prog w = .ok (.slice (some ⟨w.heap.size, 0, none⟩) 0 0) (w.alloc (.cells #[] 82)) := by kernel_rfl
theorem nil_w (w : World) : (binOp BinOp.eql 84 (.slice none 0 0) (.slice none 0 0)).run Tryz.prog w = .ok (.bool true) w := by kernel_rfl
theorem some_w (g n c : Nat) (w : World) : (binOp BinOp.eql 84 (.slice (some ⟨g, 0, none⟩) n c) (.slice none 0 0)).run Tryz.prog w = .ok (.bool false) w := by kernel_rfl
theorem info_w : ∃ i, Tryz.prog.info? 82 = some i ∧ i.zero = some (.agg #[.int .i64 0, .bool false]) ∧ i.size = 2 ∧ i.bytes = 16 :=
  ⟨(Tryz.prog.info? 82).get (by kernel_rfl), by kernel_rfl, by kernel_rfl, by kernel_rfl, by kernel_rfl⟩
/-- A row, cloned. -/
def Cl_w (w : World) (n : Nat) (xs : List Value) (e : Ending) (w' : World) : Prop := ∃ v, e = .returned v ∧ w'.ownsRow w.heap.size 82 2 v n xs ∧ Below w.heap.size w w'
theorem bs_p (w : World) : (Instr.buildSlice 85 0 #[]).run Tryz.prog w = .ok (.slice (some ⟨w.heap.size, 0, none⟩) 0 0) (w.alloc (.cells #[] 118)) := by kernel_rfl
theorem nil_p (w : World) : (binOp BinOp.eql 85 (.slice none 0 0) (.slice none 0 0)).run Tryz.prog w = .ok (.bool true) w := by kernel_rfl
theorem some_p (g n c : Nat) (w : World) : (binOp BinOp.eql 85 (.slice (some ⟨g, 0, none⟩) n c) (.slice none 0 0)).run Tryz.prog w = .ok (.bool false) w := by kernel_rfl
theorem info_p : ∃ i, Tryz.prog.info? 118 = some i ∧ i.zero = some (.agg #[.int .i64 0, .int .i64 0]) ∧ i.size = 2 ∧ i.bytes = 16 :=
  ⟨(Tryz.prog.info? 118).get (by kernel_rfl), by kernel_rfl, by kernel_rfl, by kernel_rfl, by kernel_rfl⟩
/-- A row, cloned. -/
def Cl_p (w : World) (n : Nat) (xs : List Value) (e : Ending) (w' : World) : Prop := ∃ v, e = .returned v ∧ w'.ownsRow w.heap.size 118 2 v n xs ∧ Below w.heap.size w w'
theorem wVals_one (l : List Wd) : ∀ u ∈ wVals l, u.oneCell' = true := fun u hu => by
  simp only [wVals, List.mem_flatMap] at hu
  obtain ⟨x, -, hx⟩ := hu
  simp at hx
  rcases hx with rfl | rfl <;> rfl
theorem pVals_one (l : List (Int × Int)) : ∀ u ∈ pVals l, u.oneCell' = true := fun u hu => by
  simp only [pVals, List.mem_flatMap] at hu
  obtain ⟨x, -, hx⟩ := hu
  simp at hx
  rcases hx with rfl | rfl <;> rfl




end Go.Proofs.YtfnicgihpelhhaaGreat

namespace Go.Proofs.YtfnicgihpelhhaaGreat
open Go.RowKit

def WordsAt (w : World) (A : Option Addr) (l : List (Wd)) : Prop := ∀ i, i < l.length → ∃ a : Addr, A = some a ∧ w.cell? (a.add (i * 2)) = some (.int .i64 (wV l i)) ∧ w.cell? ((a.add (i * 2)).add 1) = some (.bool (wC l i))
theorem WordsAt.keep {w w1 : World} {A : Option Addr} {l : List (Wd)} (h : WordsAt w A l) (hb : Below w.heap.size w w1) : WordsAt w1 A l := fun i hi => by
  obtain ⟨a, e, h0, h1⟩ := h i hi
  exact ⟨a, e, lkeep hb h0, lkeep hb h1⟩
theorem row_w {w : World} {b : Nat} {e : TypeId} {A : Option Addr} {n c : Nat} {l : List (Wd)} (h : w.ownsRow b e 2 (.slice A n c) l.length (wVals l)) : WordsAt w A l := fun i hi => by
  obtain ⟨e0, e1⟩ := wVals_get hi
  have hl := wVals_len l
  rcases h.2 with ⟨e, e2⟩ | ⟨g, cap, cur, e, hb, hg, hc, _, hs, ht⟩
  · omega
  · simp only [Value.slice.injEq] at e
    have q : ∀ {j : Nat} {v : Value}, j < l.length * 2 → (wVals l)[j]? = some v → cur[j]? = some v := by
      intro j v hj hv
      rw [← ht, List.getElem?_take_of_lt hj] at hv
      simpa using hv
    refine ⟨⟨g, 0, none⟩, e.1, ?_, ?_⟩
    · rw [add_at]; exact box_at hg (by rw [Nat.zero_add]; exact q (by omega) e0)
    · rw [add_at, add_at]; exact box_at hg (by rw [Nat.zero_add]; exact q (by omega) e1)
def PortsAt (w : World) (A : Option Addr) (l : List (Int × Int)) : Prop := ∀ i, i < l.length → ∃ a : Addr, A = some a ∧ w.cell? (a.add (i * 2)) = some (.int .i64 (rAt l i)) ∧ w.cell? ((a.add (i * 2)).add 1) = some (.int .i64 (rSym l i))
theorem PortsAt.keep {w w1 : World} {A : Option Addr} {l : List (Int × Int)} (h : PortsAt w A l) (hb : Below w.heap.size w w1) : PortsAt w1 A l := fun i hi => by
  obtain ⟨a, e, h0, h1⟩ := h i hi
  exact ⟨a, e, lkeep hb h0, lkeep hb h1⟩
theorem row_p {w : World} {b : Nat} {e : TypeId} {A : Option Addr} {n c : Nat} {l : List (Int × Int)} (h : w.ownsRow b e 2 (.slice A n c) l.length (pVals l)) : PortsAt w A l := fun i hi => by
  obtain ⟨e0, e1⟩ := pVals_get hi
  have hl := pVals_len l
  rcases h.2 with ⟨e, e2⟩ | ⟨g, cap, cur, e, hb, hg, hc, _, hs, ht⟩
  · omega
  · simp only [Value.slice.injEq] at e
    have q : ∀ {j : Nat} {v : Value}, j < l.length * 2 → (pVals l)[j]? = some v → cur[j]? = some v := by
      intro j v hj hv
      rw [← ht, List.getElem?_take_of_lt hj] at hv
      simpa using hv
    refine ⟨⟨g, 0, none⟩, e.1, ?_, ?_⟩
    · rw [add_at]; exact box_at hg (by rw [Nat.zero_add]; exact q (by omega) e0)
    · rw [add_at, add_at]; exact box_at hg (by rw [Nat.zero_add]; exact q (by omega) e1)
set_option maxRecDepth 100000 in
set_option maxHeartbeats 1000000 in
theorem eq_p (A B : Option Addr) (ca cb : Nat) (l : List (Int × Int)) (w : World) (hA : PortsAt w A l) (hB : PortsAt w B l) (hz : l.length ≤ 1048576) :
    Calls Tryz.prog 40 #[.slice A l.length ca, .slice B l.length cb] w fun e w' => e = .returned (.bool true) ∧ Below w.heap.size w w' := by
  go_enter Tryz.func40, Tryz.ntmps40
  go_wp2
  go_loopw [5] (fun i wr => ∃ (k j : Nat), i = .int .i64 k ∧ k ≤ l.length ∧ wr = w.drewN j) (fun i _ => l.length - (intOf i).toNat)
  case atStart => exact ⟨0, 0, rfl, by omega, rfl⟩
  case round =>
    obtain ⟨k, j, rfl, hk, rfl⟩ := hrel
    by_cases hlt : k < l.length
    · obtain ⟨a, rfl, c0, c1⟩ := hA k hlt
      obtain ⟨b, rfl, d0, d1⟩ := hB k hlt
      have hlt2 : (k : Int) < (l.length : Int) := by omega
      have p1 : w.cell? (⟨(a.add (k * 2)).block, (a.add (k * 2)).off + 1, none⟩) = some (.int .i64 (rSym l k)) := c1
      have q1 : w.cell? (⟨(b.add (k * 2)).block, (b.add (k * 2)).off + 1, none⟩) = some (.int .i64 (rSym l k)) := d1
      clear c1 d1
      go_wp2_with fail
      go_quiet (fail)
      go_wp2
      go_roundw
      case rel => exact ⟨k + 1, _, by go_num, by omega, rfl⟩
      case measure => simp [intOf]; omega
    · go_wp2
      go_ret
      exact ⟨rfl, below_drewN (Below.refl _ _) _⟩

end Go.Proofs.YtfnicgihpelhhaaGreat
