/-
  The document's machine, as it lies in memory. What a deed of the program's machine answers. The program's machine: an address.
-/
import Derived.Test.YtdlcejpfjlpclaaGreatDoorProg
import Derived.WalkKit
import Derived.WalkSpells
import Derived.WalkLawsBesides
import Derived.RowKit3
import Derived.Below
import Derived.Deep.QuietTactic
import Derived.BigQuiet
import Derived.WalkSmall
import Derived.Laws.Rows
import Derived.Test.YtdlcejpfjlpclaaGreatDoorPr12
import Derived.Deep.DeepCutAuto
namespace Go.Proofs.YtdlcejpfjlpclaaGreatDoor
open Go.RowKit

/-- Where the lists of the document's machine lie. -/
structure QLoc where
  T : Option Addr
  tc : Nat
  X : Option Addr
  xc : Nat
  R : Nat
  M : Option Addr
  mc : Nat
  V : Value
def boxQ (s : QLoc) (m : Mach) : Array Value := #[.slice s.T m.text.length s.tc, .int .i64 m.pc, .int .i8 m.status, .int .i64 m.steps, .int .i64 m.taken, .slice s.X m.tape.length s.xc, .slice (some ⟨s.R, 0, none⟩) 16 16, .slice s.M m.mem.length s.mc, s.V]
/-- A machine of the document's. -/
structure QAt (w : World) (base P : Nat) (s : QLoc) (m : Mach) : Prop where
  box : w.heap[P]? = some (.cells (boxQ s m) 88 (0, 0))
  bP : base ≤ P
  text : w.ownsRow base 36 1 (.slice s.T m.text.length s.tc) m.text.length (iVals .u32 m.text)
  tape : w.ownsRow base 2 1 (.slice s.X m.tape.length s.xc) m.tape.length (iVals .i64 m.tape)
  regs : w.ownsRow base 71 2 (.slice (some ⟨s.R, 0, none⟩) 16 16) 16 (wVals m.regs)
  mem : w.ownsRow base 71 2 (.slice s.M m.mem.length s.mc) m.mem.length (wVals m.mem)
  ports : w.ownsRow base 100 2 s.V m.ports.length (pVals m.ports)
  ne : aB s.M ≠ some s.R
/-- The blocks of it. -/
def QFoot (s : QLoc) (P b : Nat) : Prop := b = P ∨ aB s.T = some b ∨ aB s.X = some b ∨ b = s.R ∨ aB s.M = some b ∨ s.V.ownBlock = some b
section
variable {w w' : World} {base P : Nat} {s : QLoc} {m m' : Mach}
theorem QAt.lt (h : QAt w base P s m) : P < w.heap.size := (Array.getElem?_eq_some_iff.1 h.box).1
theorem QAt.foot (h : QAt w base P s m) {b : Nat} (hb : QFoot s P b) : base ≤ b ∧ b < w.heap.size := by
  rcases hb with rfl | e | e | e | e | e
  · exact ⟨h.bP, h.lt⟩
  · exact own_in h.text ((own_aB _ _ _).trans e)
  · exact own_in h.tape ((own_aB _ _ _).trans e)
  · subst e; exact own_in h.regs rfl
  · exact own_in h.mem ((own_aB _ _ _).trans e)
  · exact own_in h.ports e
theorem QAt.stay (h : QAt w base P s m) (hs : ∀ b, QFoot s P b → w'.heap[b]? = w.heap[b]?) : QAt w' base P s m :=
  ⟨(hs P (.inl rfl)).trans h.box, h.bP, own_stay h.text fun b e => hs b (.inr (.inl ((own_aB _ _ _).symm.trans e))), own_stay h.tape fun b e => hs b (.inr (.inr (.inl ((own_aB _ _ _).symm.trans e)))), own_stay h.regs fun b e => hs b (.inr (.inr (.inr (.inl (by simpa [Value.ownBlock] using e.symm))))), own_stay h.mem fun b e => hs b (.inr (.inr (.inr (.inr (.inl ((own_aB _ _ _).symm.trans e)))))), own_stay h.ports fun b e => hs b (.inr (.inr (.inr (.inr (.inr e))))), h.ne⟩
theorem QAt.keep (h : QAt w base P s m) (hb : Below w.heap.size w w') : QAt w' base P s m := h.stay fun b hf => hb.block b (h.foot hf).2
theorem QAt.other {F : Nat → Prop} (h : QAt w base P s m) (hu : Upto F w w') (hd : ∀ b, QFoot s P b → ¬ F b) : QAt w' base P s m := h.stay fun b hf => hu.block b (h.foot hf).2 (hd b hf)
theorem QAt.drew (h : QAt w base P s m) : QAt w.drew base P s m := h.stay fun _ _ => rfl
theorem QAt.drewN (h : QAt w base P s m) (n : Nat) : QAt (w.drewN n) base P s m := h.stay fun _ _ => rfl
theorem QAt.alloc (h : QAt w base P s m) (o : Obj) : QAt (w.alloc o) base P s m := h.keep (lb_alloc (Below.refl _ _) o)
theorem QAt.cells (h : QAt w base P s m) :
    w.cell? ⟨P, 0, none⟩ = some (.slice s.T m.text.length s.tc) ∧ w.cell? ⟨P, 1, none⟩ = some (.int .i64 m.pc) ∧ w.cell? ⟨P, 2, none⟩ = some (.int .i8 m.status) ∧ w.cell? ⟨P, 3, none⟩ = some (.int .i64 m.steps) ∧ w.cell? ⟨P, 4, none⟩ = some (.int .i64 m.taken) ∧ w.cell? ⟨P, 5, none⟩ = some (.slice s.X m.tape.length s.xc) ∧ w.cell? ⟨P, 6, none⟩ = some (.slice (some ⟨s.R, 0, none⟩) 16 16) ∧ w.cell? ⟨P, 7, none⟩ = some (.slice s.M m.mem.length s.mc) ∧ w.cell? ⟨P, 8, none⟩ = some s.V :=
  ⟨box_at h.box rfl, box_at h.box rfl, box_at h.box rfl, box_at h.box rfl, box_at h.box rfl, box_at h.box rfl, box_at h.box rfl, box_at h.box rfl, box_at h.box rfl⟩
theorem QAt.fro (h : QAt w base P s m) (i : Nat) : w.frozen? ⟨P, i, none⟩ = false := box_fro h.box i
/-- A word of a row that lies whole in one block. -/
theorem word_of {e : TypeId} {n c g : Nat} {l : List Wd} (h : w.ownsRow base e 2 (.slice (some ⟨g, 0, none⟩) n c) n (wVals l)) {k : Nat} (hk : k < l.length) : w.cell? ⟨g, k * 2, none⟩ = some (.int .i64 (wV l k)) ∧ w.cell? ⟨g, k * 2 + 1, none⟩ = some (.bool (wC l k)) ∧ w.frozen? ⟨g, k * 2, none⟩ = false ∧ w.frozen? ⟨g, k * 2 + 1, none⟩ = false := by
  obtain ⟨e1, e2⟩ := wVals_get hk
  have hl := wVals_len l
  have h1 := h.1
  rcases h.2 with ⟨e, e0⟩ | ⟨g2, cap, cur, e, hb, hg, hc, _, hs, ht⟩
  · cases e
  · cases e
    have q : ∀ {i : Nat} {v : Value}, i < l.length * 2 → (wVals l)[i]? = some v → cur[i]? = some v := by
      intro i v hi hv
      rw [← ht, List.getElem?_take_of_lt (by omega)] at hv
      simpa using hv
    exact ⟨box_at hg (q (by omega) e1), box_at hg (q (by omega) e2), box_fro hg _, box_fro hg _⟩
/-- A word of such a row is written. -/
theorem word_set {e : TypeId} {n c g : Nat} {l : List Wd} (h : w.ownsRow base e 2 (.slice (some ⟨g, 0, none⟩) n c) n (wVals l)) (hn : n = l.length) (k : Nat) (x : Wd) : ((w.setCell ⟨g, k * 2, none⟩ (.int .i64 x.1)).setCell ⟨g, k * 2 + 1, none⟩ (.bool x.2)).ownsRow base e 2 (.slice (some ⟨g, 0, none⟩) n c) n (wVals (l.set k x)) := by
  have hl := wVals_len l
  rcases h.2 with ⟨e, e0⟩ | ⟨g2, cap, cur, e, hb, hg, hc, hx, hs, ht⟩
  · cases e
  · cases e
    refine ⟨by rw [wVals_len, List.length_set, hn], .inr ⟨g, c, _, rfl, hb, box_set (box_set hg _ _) _ _, hc, hx, by simpa using hs, ?_⟩⟩
    simp only [Array.toList_setIfInBounds, List.take_set]
    rw [ht]
    exact wVals_set x
theorem QAt.reg (h : QAt w base P s m) (hm : m.regs.length = 16) {k : Nat} (hk : k < 16) : w.cell? ⟨s.R, k * 2, none⟩ = some (.int .i64 (wV m.regs k)) ∧ w.cell? ⟨s.R, k * 2 + 1, none⟩ = some (.bool (wC m.regs k)) ∧ w.frozen? ⟨s.R, k * 2, none⟩ = false ∧ w.frozen? ⟨s.R, k * 2 + 1, none⟩ = false := word_of h.regs (by omega)
/-- The box alone is other. -/
theorem QAt.rebox (h : QAt w base P s m) (hb : w'.heap[P]? = some (.cells (boxQ s m') 88 (0, 0))) (ho : ∀ b, b ≠ P → w'.heap[b]? = w.heap[b]?) (e1 : m'.text = m.text) (e2 : m'.tape = m.tape) (e3 : m'.mem = m.mem) (e4 : m'.ports = m.ports) (e5 : m'.regs = m.regs) : QAt w' base P s m' :=
  ⟨hb, h.bP, by rw [e1]; exact own_stay h.text fun b e => ho b (own_ne h.text e h.box (by decide)), by rw [e2]; exact own_stay h.tape fun b e => ho b (own_ne h.tape e h.box (by decide)), by rw [e5]; exact own_stay h.regs fun b e => ho b (own_ne h.regs e h.box (by decide)), by rw [e3]; exact own_stay h.mem fun b e => ho b (own_ne h.mem e h.box (by decide)), by rw [e4]; exact own_stay h.ports fun b e => ho b (own_ne h.ports e h.box (by decide)), h.ne⟩
theorem QAt.pc (h : QAt w base P s m) (k : Nat) : QAt (w.setCell ⟨P, 1, none⟩ (.int .i64 k)) base P s { m with pc := k } :=
  h.rebox (by rw [box_set h.box]; rfl) (fun b hb => Below.heap_setCell _ _ _ _ hb) rfl rfl rfl rfl rfl
theorem QAt.status (h : QAt w base P s m) (k : Int) : QAt (w.setCell ⟨P, 2, none⟩ (.int .i8 k)) base P s { m with status := k } :=
  h.rebox (by rw [box_set h.box]; rfl) (fun b hb => Below.heap_setCell _ _ _ _ hb) rfl rfl rfl rfl rfl
theorem QAt.steps (h : QAt w base P s m) (k : Nat) : QAt (w.setCell ⟨P, 3, none⟩ (.int .i64 k)) base P s { m with steps := k } :=
  h.rebox (by rw [box_set h.box]; rfl) (fun b hb => Below.heap_setCell _ _ _ _ hb) rfl rfl rfl rfl rfl
theorem QAt.taken (h : QAt w base P s m) (k : Nat) : QAt (w.setCell ⟨P, 4, none⟩ (.int .i64 k)) base P s { m with taken := k } :=
  h.rebox (by rw [box_set h.box]; rfl) (fun b hb => Below.heap_setCell _ _ _ _ hb) rfl rfl rfl rfl rfl
/-- A register is written. -/
theorem QAt.put (h : QAt w base P s m) (hm : m.regs.length = 16) (k : Nat) (x : Wd) : QAt ((w.setCell ⟨s.R, k * 2, none⟩ (.int .i64 x.1)).setCell ⟨s.R, k * 2 + 1, none⟩ (.bool x.2)) base P s (putM m k x) := by
  have ho : ∀ b, b ≠ s.R → ((w.setCell ⟨s.R, k * 2, none⟩ (.int .i64 x.1)).setCell ⟨s.R, k * 2 + 1, none⟩ (.bool x.2)).heap[b]? = w.heap[b]? := fun b hb => (Below.heap_setCell _ _ _ _ hb).trans (Below.heap_setCell _ _ _ _ hb)
  obtain ⟨cur, hR⟩ := own_block h.regs (b := s.R) rfl
  have hne : ∀ {e : TypeId} {z n b : Nat} {v : Value} {xs : List Value}, w.ownsRow base e z v n xs → v.ownBlock = some b → e ≠ 71 → b ≠ s.R := fun ho hv ne => own_ne ho hv hR ne
  have hP : P ≠ s.R := fun e => by have k := h.box; rw [e, hR] at k; simp at k
  exact ⟨(ho P hP).trans h.box, h.bP, own_stay h.text fun b e => ho b (hne h.text e (by decide)), own_stay h.tape fun b e => ho b (hne h.tape e (by decide)), word_set h.regs hm.symm k x, own_stay h.mem fun b e => ho b (fun e2 => h.ne (by rw [own_aB] at e; rw [e, e2])), own_stay h.ports fun b e => ho b (hne h.ports e (by decide)), h.ne⟩
/-- A word of the memory is written. -/
theorem QAt.store (h : QAt w base P s m) {g q : Nat} (hM : s.M = some ⟨g, 0, none⟩) (x : Wd) : QAt ((w.setCell ⟨g, q * 2, none⟩ (.int .i64 x.1)).setCell ⟨g, q * 2 + 1, none⟩ (.bool x.2)) base P s (storeM m q x) := by
  have ho : ∀ b, b ≠ g → ((w.setCell ⟨g, q * 2, none⟩ (.int .i64 x.1)).setCell ⟨g, q * 2 + 1, none⟩ (.bool x.2)).heap[b]? = w.heap[b]? := fun b hb => (Below.heap_setCell _ _ _ _ hb).trans (Below.heap_setCell _ _ _ _ hb)
  have hmm := h.mem
  rw [hM] at hmm
  obtain ⟨cur, hG⟩ := own_block hmm (b := g) rfl
  have hne : ∀ {e : TypeId} {z n b : Nat} {v : Value} {xs : List Value}, w.ownsRow base e z v n xs → v.ownBlock = some b → e ≠ 71 → b ≠ g := fun ho hv ne => own_ne ho hv hG ne
  have hP : P ≠ g := fun e => by have k := h.box; rw [e, hG] at k; simp at k
  have hl : (storeM m q x).mem.length = m.mem.length := by simp [storeM]
  refine ⟨?_, h.bP, own_stay h.text fun b e => ho b (hne h.text e (by decide)), own_stay h.tape fun b e => ho b (hne h.tape e (by decide)), own_stay h.regs fun b e => ho b (fun e2 => h.ne (by rw [hM]; simp only [Value.ownBlock, Option.some.injEq] at e; simp [aB]; omega)), ?_, own_stay h.ports fun b e => ho b (hne h.ports e (by decide)), h.ne⟩
  · rw [ho P hP, h.box]
    simp [boxQ, storeM]
  · rw [hl, hM]
    exact word_set hmm rfl q x
def QLoc.at (s : QLoc) (v : Value) : QLoc := { s with V := v }
theorem QAt.out (h : QAt w base P s m) {v : Value} {x y : Int} (hg : w.grownBy w' s.V.ownBlock) (ho : w'.ownsRow base 100 2 v (m.ports.length + 1) (pVals m.ports ++ [.int .i64 x, .int .i64 y])) : QAt (w'.setCell ⟨P, 8, none⟩ v) base P (s.at v) (outM m x y) := by
  have hk : ∀ b, b < w.heap.size → some b ≠ s.V.ownBlock → w'.heap[b]? = w.heap[b]? := fun b hb hn => hg.block b hb hn
  have hPV : some P ≠ s.V.ownBlock := fun e => own_ne h.ports e.symm h.box (by decide) rfl
  have hb : w'.heap[P]? = some (.cells (boxQ s m) 88 (0, 0)) := (hk P h.lt hPV).trans h.box
  have row : ∀ {e : TypeId} {z n : Nat} {u : Value} {xs : List Value}, w.ownsRow base e z u n xs → e ≠ 100 → e ≠ 88 → (w'.setCell ⟨P, 8, none⟩ v).ownsRow base e z u n xs := by
    intro e z n u xs hr n1 n2
    refine own_stay hr fun b e => ?_
    have hbP := own_ne hr e h.box n2
    rw [Below.heap_setCell _ _ _ _ hbP]
    refine hk b (own_in hr e).2 fun ev => ?_
    obtain ⟨cur, hc⟩ := own_block h.ports ev.symm
    exact own_ne hr e hc n1 rfl
  refine ⟨?_, h.bP, row h.text (by decide) (by decide), row h.tape (by decide) (by decide), row h.regs (by decide) (by decide), row h.mem (by decide) (by decide), ?_, h.ne⟩
  · rw [box_set hb]; rfl
  · have hl : (outM m x y).ports.length = m.ports.length + 1 := by simp [outM]
    rw [hl]
    have e : pVals (outM m x y).ports = pVals m.ports ++ [.int .i64 x, .int .i64 y] := pVals_snoc m.ports (x, y)
    rw [e]
    exact own_stay ho fun b e => Below.heap_setCell _ _ _ _ (own_ne ho e hb (by decide))
end

end Go.Proofs.YtdlcejpfjlpclaaGreatDoor

namespace Go.Proofs.YtdlcejpfjlpclaaGreatDoor
open Go.RowKit

/-- A deed: it gives up, and nothing is other; or it tells the next place, and the machine is as r says. -/
def DidP (w : World) (base P : Nat) (s : Loc) (_m : Mach) (r : Did) (e : Ending) (w' : World) : Prop :=
  (¬ r.err = 0 ∧ e = stopM r.err ∧ Below w.heap.size w w') ∨ (r.err = 0 ∧ e = .returned (.int .i64 r.to) ∧ ∃ s', PAt w' base P s' r.m ∧ Upto (Foot s P) w w' ∧ ∀ b, Foot s' P b → Foot s P b ∨ w.heap.size ≤ b)
section
variable {w w' : World} {base P : Nat} {s : Loc} {m : Mach}
theorem did_no {f : Int} (hf : ¬ f = 0) (hb : Below w.heap.size w w') : DidP w base P s m (noD m f) (stopM f) w' := .inl ⟨hf, rfl, hb⟩
theorem did_yes {r : Did} {k : Int} (he : r.err = 0) (hk : k = r.to) (h : PAt w' base P s r.m) (hu : Upto (Foot s P) w w') : DidP w base P s m r (.returned (.int .i64 k)) w' := .inr ⟨he, by rw [hk], s, h, hu, fun _ hb => .inl hb⟩
theorem did_put {r : Nat} {x : Wd} {k : Int} (hk : k = (m.pc : Int) + 1) (h : PAt w' base P s (putM m r x)) (hu : Upto (Foot s P) w w') : DidP w base P s m (putD m r x) (.returned (.int .i64 k)) w' := did_yes rfl hk h hu
theorem wrap_pc {k : Nat} (h : k ≤ 16384) : IntKind.i64.wrap ((k : Int) + 1) = (k : Int) + 1 := by
  simp [IntKind.wrap, IntKind.signed, IntKind.bits]; omega
theorem have_wd {G : Prop} {w w1 : World} (p : Nat) (hb : Below w.heap.size w w1) (h : w.cell? ⟨p, 0, none⟩ = some (.int .i64 0) ∧ w.cell? ⟨p, 1, none⟩ = some (.bool false) ∧ w.frozen? ⟨p, 0, none⟩ = false ∧ w.frozen? ⟨p, 1, none⟩ = false) (k : w1.cell? ⟨p, 0, none⟩ = some (.int .i64 0) → w1.cell? ⟨p, 1, none⟩ = some (.bool false) → w1.frozen? ⟨p, 0, none⟩ = false → w1.frozen? ⟨p, 1, none⟩ = false → G) : G :=
  k (lkeep hb h.1) (lkeep hb h.2.1) ((hb.frozen (p := ⟨p, 0, none⟩) (World.block_lt_of_cell? w _ h.1)).trans h.2.2.1) ((hb.frozen (p := ⟨p, 1, none⟩) (World.block_lt_of_cell? w _ h.2.1)).trans h.2.2.2)
theorem lb_new {w w1 : World} {i : Nat} {v : Value} (h : Below w.heap.size w w1) : Below w.heap.size w (w1.setCell ⟨w.heap.size, i, none⟩ v) := h.setCell (p := ⟨w.heap.size, i, none⟩) (Nat.le_refl _) v
/-- The machine's box alone may be other, and of it the lists stand. -/
structure Near (P : Nat) (W0 W : World) : Prop where
  but : But P W0 W
  hdr : W.cell? ⟨P, 34, none⟩ = W0.cell? ⟨P, 34, none⟩
  tap : W.cell? ⟨P, 1, none⟩ = W0.cell? ⟨P, 1, none⟩
  tak : W.cell? ⟨P, 38, none⟩ = W0.cell? ⟨P, 38, none⟩
theorem Near.refl (P : Nat) (W : World) : Near P W W := ⟨But.refl _ _, rfl, rfl, rfl⟩
theorem Near.drew {P : Nat} {W0 W : World} (h : Near P W0 W) : Near P W0 W.drew := ⟨h.but, h.hdr, h.tap, h.tak⟩
theorem Near.trans {P : Nat} {a b c : World} (h : Near P a b) (k : Near P b c) : Near P a c := ⟨h.but.trans k.but, k.hdr.trans h.hdr, k.tap.trans h.tap, k.tak.trans h.tak⟩
theorem Near.below {P : Nat} {a b c : World} (h : Near P a b) (hb : Below b.heap.size b c) (hP : P < b.heap.size) : Near P a c := ⟨h.but.on hb, (hb.cell (p := ⟨P, 34, none⟩) hP).trans h.hdr, (hb.cell (p := ⟨P, 1, none⟩) hP).trans h.tap, (hb.cell (p := ⟨P, 38, none⟩) hP).trans h.tak⟩
theorem Near.box {P B i : Nat} {W0 W : World} {v : Value} (h : Near P W0 W) (hB : B ≠ P) (hc : W0.cell? ⟨B, i, none⟩ = some v) : W.cell? ⟨B, i, none⟩ = some v := h.but.cell (p := ⟨B, i, none⟩) hB hc
theorem Near.up {P : Nat} {W0 W : World} {s : Loc} (h : Near P W0 W) : Upto (Foot s P) W0 W := ⟨h.but.1, h.but.2.1, h.but.2.2.1, h.but.2.2.2.1, fun b hb hn => h.but.2.2.2.2 b hb (fun e => hn (.inl e))⟩
theorem put_near {base P : Nat} {s : Loc} {m : Mach} {w : World} (h : PAt w base P s m) (hm : Fine m) (r : Nat) (hr : r < 16) (x : Wd) : Calls Tryz.prog 96 #[.pointer (some ⟨P, 0, none⟩), .int .i8 r, .agg #[.int .i64 x.1, .bool x.2]] w fun e w' => e = .returned (.int .i64 ((m.pc : Int) + 1)) ∧ PAt w' base P s (putM m r x) ∧ Near P w w' := by
  have hq := ((h.put hm.sixteen hr x).alloc (.cells #[.int .i64 x.1, .bool x.2] 71)).drew
  obtain ⟨d0, d1⟩ := h.reg hm.sixteen hr
  obtain ⟨c0, c1, c34, c35, c36, c37, c38, c39⟩ := h.cells hm.sixteen
  have f0 := h.fro (2 + r * 2)
  have f1 := h.fro (2 + r * 2 + 1)
  have hP := h.lt
  have hpc := hm.pc
  have HC : Hid (w.cell? ⟨P, 34, none⟩ = some (.slice s.M m.mem.length s.mc) ∧ w.cell? ⟨P, 1, none⟩ = some (.slice s.X m.tape.length s.xc) ∧ w.cell? ⟨P, 38, none⟩ = some (.int .i64 m.taken)) := ⟨c34, c1, c38⟩
  have HN : Hid (But P w ((((w.setCell ⟨P, 2 + r * 2, none⟩ (.int .i64 x.1)).setCell ⟨P, 2 + r * 2 + 1, none⟩ (.bool x.2)).alloc (.cells #[.int .i64 x.1, .bool x.2] 71)).drew)) := (((But.refl P w).set _ _).set _ _).on (Below.drew (lb_alloc (Below.refl _ _) _))
  clear h
  go_enter Tryz.func96, Tryz.ntmps96
  go_wp2_with fail
  go_region
  all_goals (
    go_wp2
    go_ret
    obtain ⟨-, k1, k34, -, -, -, k38, -⟩ := hq.cells (m := putM m r x) (by simp [putM, hm.sixteen])
    exact ⟨rfl, hq, ⟨HN.out, k34.trans HC.out.1.symm, k1.trans HC.out.2.1.symm, k38.trans HC.out.2.2.symm⟩⟩)
theorem up_on {F : Nat → Prop} {w1 : World} (hb : Below w.heap.size w w1) (hu : Upto F w1 w') : Upto F w w' := (Upto.of hb).trans hu
end

end Go.Proofs.YtdlcejpfjlpclaaGreatDoor

namespace Go.Proofs.YtdlcejpfjlpclaaGreatDoor
open Go.RowKit

section
variable {w : World} {base P : Nat} {s : Loc} {m : Mach}
def AddrP (E V : Int) (w : World) (e : Ending) (w' : World) : Prop := ((E = 0 ∧ e = .returned (.int .i64 V)) ∨ (¬ E = 0 ∧ e = stopM E)) ∧ Below w.heap.size w w'
set_option maxHeartbeats 1000000 in
theorem address_any (h : PAt w base P s m) (hm : Fine m) {op d b n : Int} {j : Nat} (hj : j < 16) : Calls Tryz.prog 99 #[.pointer (some ⟨P, 0, none⟩), .agg #[.int .i8 op, .int .i8 d, .int .i8 j, .int .i8 b, .int .i64 n]] w (AddrP (aE m j n) (aV m j n) w) := by
  have zj : (0 : Int) ≤ (j : Int) := Int.natCast_nonneg _
  have yj : (j : Int) < 16 := by omega
  obtain ⟨W0, HW⟩ : ∃ W0, Hid (w.alloc (.cells #[.int .i8 op, .int .i8 d, .int .i8 j, .int .i8 b, .int .i64 n] 82) = W0) := ⟨_, rfl⟩
  have x0 : W0.cell? ⟨w.heap.size, 0, none⟩ = some (.int .i8 op) := by rw [← HW.out]; simp [go_sem]
  have x1 : W0.cell? ⟨w.heap.size, 1, none⟩ = some (.int .i8 d) := by rw [← HW.out]; simp [go_sem]
  have x2 : W0.cell? ⟨w.heap.size, 2, none⟩ = some (.int .i8 j) := by rw [← HW.out]; simp [go_sem]
  have x3 : W0.cell? ⟨w.heap.size, 3, none⟩ = some (.int .i8 b) := by rw [← HW.out]; simp [go_sem]
  have x4 : W0.cell? ⟨w.heap.size, 4, none⟩ = some (.int .i64 n) := by rw [← HW.out]; simp [go_sem]
  have h0 : PAt W0 base P s m := by rw [← HW.out]; exact h.alloc _
  have HB0 : Hid (Below w.heap.size w W0) := by unfold Hid; rw [← HW.out]; exact lb_alloc (Below.refl _ _) _
  have hz0 : w.heap.size < W0.heap.size := by rw [← HW.out]; simp
  have hP := h.lt
  have hWW := Below.refl W0.heap.size W0
  obtain ⟨d0, d1⟩ := h0.reg hm.sixteen hj
  have hml := hm.mlen
  obtain ⟨c0, c1, c34, c35, c36, c37, c38, c39⟩ := h0.cells hm.sixteen
  have C1 := addr_any (wV m.regs j) n m.mem.length (wC m.regs j)
  have HE : Hid (addrE (wV m.regs j) n m.mem.length (wC m.regs j) = aE m j n) := rfl
  have HV : Hid (addrV (wV m.regs j) n m.mem.length (wC m.regs j) = aV m j n) := rfl
  rw [HE.out, HV.out] at C1
  clear HE HV
  generalize aV m j n = V at *
  generalize aE m j n = E at *
  go_enter Tryz.func99, Tryz.ntmps99
  go_upto_region 1 with fail
  rw [HW.out]
  clear HW
  go_cut [5, 6] (fun x y wx => x = .int .i64 V ∧ y = .int .i8 E ∧ Hid (Below W0.heap.size W0 wx))
  case first =>
    go_region_held3 (fun W => Below W0.heap.size W0 W ∧ W.cell? ⟨w.heap.size, 2, none⟩ = some (.int .i8 j) ∧ W.cell? ⟨w.heap.size, 4, none⟩ = some (.int .i64 n) ∧ W.cell? ⟨P, 2 + j * 2, none⟩ = some (.int .i64 (wV m.regs j)) ∧ W.cell? ⟨P, 2 + j * 2 + 1, none⟩ = some (.bool (wC m.regs j)) ∧ W.cell? ⟨P, 34, none⟩ = some (.slice s.M m.mem.length s.mc))
      (first | (refine ⟨?_, lkeep ?_ x2, lkeep ?_ x4, lkeep ?_ d0, lkeep ?_ d1, lkeep ?_ c34⟩ <;> ((repeat (first | assumption | exact (‹Below _ _ _ ∧ _›).1 | apply Below.drew | apply lb_alloc | apply lb_new | refine lb_trans ?_ hb)); done)))
      (first | (go_at_call 106; refine (C1 _).mono ?_; rintro e w1 ⟨rfl, rfl⟩))

    all_goals (
      rename_i hS
      have sB : Hid _ := hS.1
      clear hS
      go_wp2_with fail
      go_meet
      exact ⟨rfl, rfl, sB⟩)
  case rest =>
    obtain ⟨rfl, rfl, HBc⟩ := hcut
    have HB9 : Hid (Below w.heap.size w wc) := lb_trans HB0.out HBc.out
    clear x0 x1 x2 x3 x4 d0 d1 c0 c1 c34 c35 c36 c37 c38 c39 C1
    by_cases he : E = 0
    · subst he
      have C3 := raise_yes wc
      go_wp2_with (first
        | (go_at_call 98; refine C3.mono ?_; rintro e w1 ⟨rfl, rfl⟩))
      go_ret
      exact ⟨.inl ⟨rfl, rfl⟩, HB9.out⟩
    · have C3 := raise_no E he wc
      go_wp2_with fail
      refine C3.mono ?_
      rintro e w1 ⟨rfl, rfl⟩
      unfold stopM
      go_wp2
      exact ⟨rfl, .inr ⟨he, rfl⟩, HB9.out⟩
end

end Go.Proofs.YtdlcejpfjlpclaaGreatDoor
