/-
  A range over what is told. All.
-/
import Derived.Test.YtokhclindfipbaaProg
import Derived.WalkKit
import Derived.WalkSpells
import Derived.WalkLawsBesides
import Derived.RowKit3
import Derived.Below
import Derived.Deep.QuietTactic
import Derived.BigQuiet
import Derived.WalkSmall
import Derived.Laws.Rows
import Derived.Test.YtokhclindfipbaaPr45
import Derived.RangeFuncNested
import Derived.RangeFuncBound
import Derived.RangeFuncCalls
import Derived.RangeFuncLeaves
import Derived.Shelf.Abstract
import Derived.Shelf.RegionOpen
import Derived.OwnWalkIn
import Derived.TacticsInMore
import Derived.LoopNIn
import Derived.LoopIn
import Derived.Maps.AppendAt
import Derived.RangeFuncBox
import Derived.Test.YtokhclindfipbaaPr44
namespace Go.Proofs.Ytokhclindfipbaa
open Go.RowKit

attribute [local go_sem] Oper.semAt_some

/-- What a range's own doing may turn: whatever is no cells, from n on. -/
structure Turn (n : Nat) (W W' : World) : Prop where
  os : W'.os = W.os
  tape : W'.tape = W.tape
  output : W'.output = W.output
  size : W.heap.size ≤ W'.heap.size
  low : ∀ b, b < n → W'.heap[b]? = W.heap[b]?
  cells : ∀ (b : Nat) (cs : Array Value) (t : TypeId) (m : Nat × Nat), W.heap[b]? = some (.cells cs t m) → W'.heap[b]? = W.heap[b]?
theorem Turn.of {n : Nat} {W W' : World} (h : Below W.heap.size W W') (hn : n ≤ W.heap.size) : Turn n W W' :=
  ⟨h.os, h.tape, h.output, h.size, fun b hb => h.block b (by omega), fun b _ _ _ e => h.block b (Array.getElem?_eq_some_iff.1 e).1⟩
theorem Turn.put {n l : Nat} {W : World} {o o' : Obj} (h : W.heap[l]? = some o) (ho : o.isCells = false) (hn : n ≤ l) : Turn n W (W.putObj l o') :=
  ⟨rfl, rfl, rfl, by simp, fun b hb => World.putObj_heap_other (by omega), fun b cs t m e => World.putObj_heap_other (fun e2 => by rw [e2, h] at e; cases e; cases ho)⟩
theorem own_blockR {W : World} {base n : Nat} {e : TypeId} {size : Nat} {v : Value} {xs : List Value} (h : W.ownsRow base e size v n xs) {g : Nat} (hg : v.ownBlock = some g) : ∃ cs, W.heap[g]? = some (.cells cs e (0, 0)) := by
  rcases h.2 with ⟨rfl, _⟩ | ⟨g', cap, cur, rfl, _, h3, _⟩
  · cases hg
  · cases hg
    exact ⟨cur, h3⟩
theorem Turn.row {n : Nat} {W W' : World} {base : Nat} {e : TypeId} {size : Nat} {v : Value} {k : Nat} {xs : List Value} (h : Turn n W W') (hr : W.ownsRow base e size v k xs) : W'.ownsRow base e size v k xs := by
  obtain ⟨h1, h2⟩ := hr
  refine ⟨h1, ?_⟩
  rcases h2 with h2 | ⟨g', cap, cur, rfl, h2, h3, h4⟩
  · exact .inl h2
  · exact .inr ⟨g', cap, cur, rfl, h2, (h.cells _ _ _ _ h3).trans h3, h4⟩
theorem Turn.box {n B : Nat} {t : TypeId} {cs : Array Value} {W W' : World} {m : Nat × Nat} (h : Turn n W W') (hb : W.heap[B]? = some (.cells cs t m)) : W'.heap[B]? = some (.cells cs t m) := (h.cells B _ _ _ hb).trans hb
theorem Turn.below {n n0 : Nat} {w0 W W' : World} (h : Turn n W W') (hb : Below n0 w0 W) (hn : n0 ≤ n) : Below n0 w0 W' := hb.trans ⟨h.os, h.tape, h.output, h.size, fun k hk => h.low k (by omega)⟩
/-- What a round must keep: what lay below n0; from n1 on whatever is no cells. -/
structure Kept (n0 n1 : Nat) (W W' : World) : Prop where
  low : Below n0 W W'
  other : ∀ (b : Nat) (o : Obj), W.heap[b]? = some o → n1 ≤ b → o.isCells = false → W'.heap[b]? = some o
theorem Kept.trans {n0 n1 : Nat} {A B C : World} (h : Kept n0 n1 A B) (k : Kept n0 n1 B C) : Kept n0 n1 A C :=
  ⟨h.low.trans k.low, fun b o e hb ho => k.other b o (h.other b o e hb ho) hb ho⟩
theorem Kept.of {n0 n1 : Nat} {W W' : World} (h : Below W.heap.size W W') (hn : n0 ≤ W.heap.size) : Kept n0 n1 W W' :=
  ⟨h.mono hn, fun b _o e _ _ => (h.block b (Array.getElem?_eq_some_iff.1 e).1).trans e⟩
/-- A change of one block of cells. -/
theorem Kept.grown {n0 n1 g : Nat} {W W' : World} {cs : Array Value} {t : TypeId} {m : Nat × Nat} (h : W.grownBy W' (some g)) (hg : W.heap[g]? = some (.cells cs t m)) (hn : n0 ≤ g) : Kept n0 n1 W W' := by
  have hlt := (Array.getElem?_eq_some_iff.1 hg).1
  refine ⟨⟨h.os, h.tape, h.output, h.size, fun k hk => h.block k (by omega) (fun e => by cases e; omega)⟩, fun b o e _ ho => ?_⟩
  exact (h.block b (Array.getElem?_eq_some_iff.1 e).1 (fun e2 => by cases e2; rw [hg] at e; cases e; cases ho)).trans e
theorem Kept.grown0 {n0 n1 : Nat} {W W' : World} (h : W.grownBy W' none) (hn : n0 ≤ W.heap.size) : Kept n0 n1 W W' :=
  Kept.of ⟨h.os, h.tape, h.output, h.size, fun k hk => h.block k hk (by simp)⟩ hn
theorem below_put {n0 l : Nat} {W : World} {o : Obj} (hn : n0 ≤ l) : Below n0 W (W.putObj l o) := ⟨rfl, rfl, rfl, by simp, fun b hb => World.putObj_heap_other (by omega)⟩
/-- How a round's body may be left. -/
def RoundQ (n0 n1 x : Nat) (I Ix : List (Nat × Nat) → World → Prop) (T : List (Nat × Nat)) (W : World) : Exit → Act → World → Prop
  | .normal, _, W' => Kept n0 n1 W W' ∧ I T W'
  | .exit y, _, W' => Kept n0 n1 W W' ∧ y = x ∧ Ix T W'
  | _, _, _ => False
set_option maxHeartbeats 2000000 in
/-- A range over the sequences. -/
theorem range_each {g : Operand} {ps : Array Tmp} {assign body : Code} {Q : Exit → Act → World → Prop} {a : Act} {w : World} (n : Nat) (hn : 3 ≤ n) (x n0 B : Nat) (A1 A2 A3 A4 : Option Addr) (c1 c2 c3 c4 : Nat) (nm : List Int) (en : Nat → Nat) (he : EnP nm en) (hl : nm.length ≤ 2048)
    (hg : a.eval g = .func (.func 31) #[.pointer (some ⟨B, 0, none⟩)] #[]) (hps : ps.size = 1)
    (hn0 : n0 ≤ w.heap.size) (I Ix : List (Nat × Nat) → World → Prop) (hO : ∀ T W, I T W → RwS W B A1 A2 A3 A4 c1 c2 c3 c4 nm en)
    (hI : ∀ T W W', I T W → Turn w.heap.size W W' → I T W') (hIx : ∀ T W W', Ix T W → Turn w.heap.size W W' → Ix T W') (h0 : I [] w)
    (Ax : Nat → Nat → Option Addr → Nat → Nat → Act → World → World → Prop)
    (hassign : ∀ (l0 m : Nat) (O : Option Addr) (k c : Nat) (W : World) (K : Act → World → Prop), (∀ a1 W1, Ax l0 m O k c a1 W W1 → K a1 W1) → assign.wpIn (Fence.wide.inRound l0) (n - 1 - 1) Try.prog (Exit.then K (fun _ _ _ => False)) { tmps := (ps.zip #[repV m O k c]).foldl (fun t (p, v) => t.setIfInBounds p v) a.tmps, defers := [] } W)
    (hAx : ∀ l0 m O k c a1 W W1, Ax l0 m O k c a1 W W1 → Below W.heap.size W W1)
    (hbody : ∀ (l0 : Nat) (T : List (Nat × Nat)) (r : Nat × Nat) (O : Option Addr) (c : Nat) (W W1 W3 : World) (a1 : Act), T ++ [r] <+: eachL nm en → w.heap.size ≤ W.heap.size → Ax l0 r.1 O (plcS nm en r.2 r.1).length c a1 W W1 → Turn w.heap.size W1 W3 → I T W3 → W3.ownsRow n0 3 1 (.slice O (plcS nm en r.2 r.1).length c) (plcS nm en r.2 r.1).length (iVals .i64 (nV64 (plcS nm en r.2 r.1))) → body.wpIn (Fence.wide.inRound l0) (n - 1 - 1) Try.prog (RoundQ n0 w.heap.size x I Ix (T ++ [r]) W3) a1 W3)
    (hdone : ∀ (D : Nat) (W : World), w.heap.size ≤ D → I (eachL nm en) W → W.heap[D]? = some (.deferred (some [])) → Q .normal { a with defers := { target := .collected D, args := #[] } :: a.defers } W)
    (hstop : ∀ (D : Nat) (T : List (Nat × Nat)) (W : World), w.heap.size ≤ D → T <+: eachL nm en → Ix T W → W.heap[D]? = some (.deferred (some [])) → Q (.exit x) { a with defers := { target := .collected D, args := #[] } :: a.defers } W) :
    (Code.rangeFunc g ps assign body).wpIn Fence.wide n Try.prog Q a w := by
  refine wpIn_rangeFunc fun fn hfn => ?_
  obtain ⟨rec, hrec⟩ : ∃ rec : LoopState → Option Code → Loop, rec = fun st pe => { state := st, pending := pe, fn, tmps := a.tmps, params := ps, assign, body, defers := w.heap.size } := ⟨_, rfl⟩
  obtain ⟨W1, hW1⟩ : ∃ W1, (w.alloc (.deferred (some []))).alloc (.loop (rec .ready none)) = W1 := ⟨_, rfl⟩
  have b1 : Below w.heap.size w W1 := by rw [← hW1]; exact lb_alloc (lb_alloc (Below.refl _ _) _) _
  have L1 : W1.heap[w.heap.size + 1]? = some (.loop (rec .ready none)) := by
    rw [← hW1]; have := World.alloc_heap_new (w.alloc (.deferred (some []))) (.loop (rec .ready none)); rwa [World.size_alloc] at this
  have D1 : W1.heap[w.heap.size]? = some (.deferred (some [])) := by
    rw [← hW1]; exact (Below.heap_alloc _ _ _ (by simp)).trans (World.alloc_heap_new w _)
  have size : ∀ {W : World} {o : Obj}, W.heap[w.heap.size + 1]? = some o → w.heap.size ≤ W.heap.size := fun h => by
    have := (Array.getElem?_eq_some_iff.1 h).1
    omega
  refine ⟨w.heap.size + 1, [{ target := .collected w.heap.size, args := #[] }], W1, { target := .fn (.func 31) #[], args := #[.pointer (some ⟨B, 0, none⟩), .func (.yield (w.heap.size + 1)) #[] #[]] }, W1, 31, #[.pointer (some ⟨B, 0, none⟩), .func (.yield (w.heap.size + 1)) #[] #[]], W1, ?_, ?_, fun _ _ => trivial, ?_, (fun h => by cases h), ?_⟩
  · rw [← hW1, hrec]; exact run_enterLoop_outer _ _ _ _ _
  · simp only [resolve, hg]
    simp [go_sem]
  · have eg := enters_of Try.func31 (by kernel_rfl) rfl
    simp [invoke, go_sem, eg _ _]
  · refine (each1_any (n - 1) (by omega) (w.heap.size + 1) B A1 A2 A3 A4 c1 c2 c3 c4 nm en he hl n0
      (fun T W => I T W ∧ W.heap[w.heap.size + 1]? = some (.loop (rec .ready none)) ∧ W.heap[w.heap.size]? = some (.deferred (some [])))
      (fun T W => Ix T W ∧ W.heap[w.heap.size + 1]? = some (.loop (rec .done (some (.exit x)))) ∧ W.heap[w.heap.size]? = some (.deferred (some [])))
      (fun T W W' h hb => ⟨hI T W W' h.1 (Turn.of hb (size h.2.1)), (hb.block _ (Array.getElem?_eq_some_iff.1 h.2.1).1).trans h.2.1, (hb.block _ (Array.getElem?_eq_some_iff.1 h.2.2).1).trans h.2.2⟩)
      (fun T W h => ⟨hO T W h.1, Nat.le_trans hn0 (size h.2.1)⟩) ?round W1 ⟨hI [] w W1 h0 (Turn.of b1 (Nat.le_refl _)), L1, D1⟩).mono ?_
    case round =>
      rintro T r O c W hp ⟨hi, hl, hd⟩ hrow
      have hlt : w.heap.size + 1 < W.heap.size := (Array.getElem?_eq_some_iff.1 hl).1
      have hy := run_yield (P := Try.prog) (args := #[repV r.1 O (plcS nm en r.2 r.1).length c]) hl (by rw [hrec]; simp [hps])
      rw [hrec] at hy
      refine ⟨fn, _, assign, body, hy, roundIn_of_wpIn hfn (hassign _ _ _ _ _ W _ fun a1 W2 hax => ?_)⟩
      have hb2 := hAx _ _ _ _ _ _ _ _ hax
      have hsz := hb2.size
      have hl2 : W2.heap[w.heap.size + 1]? = some (.loop (rec .ready none)) := (hb2.block _ hlt).trans hl
      have hd2 : W2.heap[w.heap.size]? = some (.deferred (some [])) := (hb2.block _ (by omega)).trans hd
      have hlt2 : w.heap.size + 1 < W2.heap.size := by omega
      refine ⟨_, run_beginRound hl2 (by rw [hrec]), ?_⟩
      have tn : Turn w.heap.size W2 (W2.putObj (w.heap.size + 1) (.loop { rec .ready none with state := .busy })) := Turn.put hl2 rfl (by omega)
      have l2 : (W2.putObj (w.heap.size + 1) (.loop { rec .ready none with state := .busy })).heap[w.heap.size + 1]? = some (.loop { rec .ready none with state := .busy }) := World.putObj_heap_same hlt2
      have d2 : (W2.putObj (w.heap.size + 1) (.loop { rec .ready none with state := .busy })).heap[w.heap.size]? = some (.deferred (some [])) := (World.putObj_heap_other (by omega)).trans hd2
      refine wpIn_mono (hbody _ T r O c W W2 _ a1 hp (by omega) hax tn (hI _ _ _ (hI _ _ _ hi (Turn.of hb2 (by omega))) tn) (tn.row (row_keep hrow hb2))) ?_
      intro e a3 W3 hq
      cases e with
      | normal =>
        obtain ⟨k3, i3⟩ := hq
        have l3 := k3.other _ _ l2 (by omega) rfl
        have d3 := k3.other _ _ d2 (Nat.le_refl _) rfl
        have hr := run_endRound (P := Try.prog) none l3
        refine ⟨_, _, hr, .inl ⟨rfl, hI _ _ _ i3 (Turn.put l3 rfl (by omega)), ?_, (World.putObj_heap_other (by omega)).trans d3⟩⟩
        rw [World.putObj_heap_same (Array.getElem?_eq_some_iff.1 l3).1, hrec]
        rfl
      | exit y =>
        obtain ⟨k3, rfl, i3⟩ := hq
        have l3 := k3.other _ _ l2 (by omega) rfl
        have d3 := k3.other _ _ d2 (Nat.le_refl _) rfl
        have hr := run_endRound (P := Try.prog) (some (.exit y)) l3
        refine ⟨_, _, hr, .inr ⟨rfl, hIx _ _ _ i3 (Turn.put l3 rfl (by omega)), ?_, (World.putObj_heap_other (by omega)).trans d3⟩⟩
        rw [World.putObj_heap_same (Array.getElem?_eq_some_iff.1 l3).1, hrec]
        rfl
      | ret => exact hq.elim
      | goto t => exact hq.elim
      | panic ch => exact hq.elim
      | outgrown => exact hq.elim
    rintro e W2 ⟨⟨v, rfl⟩, ⟨hi, hl, hd⟩ | ⟨T, hT, hi, hl, hd⟩⟩
    · exact ⟨none, _, by have := run_endLoop (P := Try.prog) hl (by rw [hrec]; simp); rw [hrec] at this; exact this, hdone _ _ (Nat.le_refl _) (hI _ _ _ hi (Turn.put hl rfl (by omega))) ((World.putObj_heap_other (by omega)).trans hd)⟩
    · exact ⟨some (.exit x), _, by have := run_endLoop (P := Try.prog) hl (by rw [hrec]; simp); rw [hrec] at this; exact this, wpIn_exit (hstop _ T _ (Nat.le_refl _) hT (hIx _ _ _ hi (Turn.put hl rfl (by omega))) ((World.putObj_heap_other (by omega)).trans hd))⟩

end Go.Proofs.Ytokhclindfipbaa

namespace Go.Proofs.Ytokhclindfipbaa
open Go.RowKit

/-- What All answers. -/
def AllOk (text : List Int) (ent : Int) (w : World) (e : Ending) (w' : World) : Prop := ∃ (B : Nat) (A1 A2 A3 A4 : Option Addr) (c1 c2 c3 c4 : Nat), e = .returned (.tuple #[.func (.func 31) #[.pointer (some ⟨B, 0, none⟩)] #[], .int .i64 0]) ∧ w.heap.size ≤ B ∧ RwS w' B A1 A2 A3 A4 c1 c2 c3 c4 (numL text text.length) (enK (begF text ent) text.length) ∧ RwAt w.heap.size B A1 A2 A3 A4 ∧ Below w.heap.size w w'
def AllNo (E : Int) (w : World) (e : Ending) (w' : World) : Prop := e = .returned (.tuple #[.nilFunc, .int .i64 E]) ∧ Below w.heap.size w w'
set_option maxRecDepth 100000 in
set_option maxHeartbeats 4000000 in
theorem all_no (A1 A2 : Option Addr) (c1 ml c2 : Nat) (ent : Int) (text : List Int) (w : World) (hT : IntsAt w A1 .u32 text) (hR : ∀ i, i < text.length → 0 ≤ nth text i ∧ nth text i < 4294967296) (hl : text.length ≤ 1048576) (hm : ml ≤ 1048576) (hE : (checkI text ml ent).1 ≠ 0) :
    Calls Try.prog 17 #[.agg #[.slice A1 text.length c1, .int .i64 ent, .slice A2 ml c2]] w (AllNo (checkI text ml ent).1 w) := by
  obtain ⟨X, hX⟩ : ∃ X, w.alloc (.cells #[.slice A1 text.length c1, .int .i64 ent, .slice A2 ml c2] 25) = X := ⟨_, rfl⟩
  have HB : Hid (Below w.heap.size w X) := by unfold Hid; rw [← hX]; exact lb_alloc (Below.refl _ _) _
  have i0 : X.cell? ⟨w.heap.size, 0, none⟩ = some (.slice A1 text.length c1) := by rw [← hX]; simp [go_sem]
  have i1 : X.cell? ⟨w.heap.size, 1, none⟩ = some (.int .i64 ent) := by rw [← hX]; simp [go_sem]
  have i2 : X.cell? ⟨w.heap.size, 2, none⟩ = some (.slice A2 ml c2) := by rw [← hX]; simp [go_sem]
  have C := rows_no A1 A2 c1 ml c2 ent text X (hT.keep HB.out) hR hl hm hE
  have hne : ((checkI text ml ent).1 != 0) = true := by simpa using hE
  have HX : Hid _ := hX
  clear hT hR hX hE
  generalize (checkI text ml ent).1 = E at *
  go_enter Try.func17, Try.ntmps17
  go_upto_region 1 with fail
  rw [HX.out]
  clear HX
  go_wp2_with (go_at_call 28; refine C.mono ?_; rintro e w1 ⟨rfl, hb1⟩; have HB1 : Hid (Below w.heap.size w w1) := lb_trans HB.out hb1; clear hb1)
  go_ret2
  exact ⟨rfl, HB1.out⟩
set_option maxRecDepth 100000 in
set_option maxHeartbeats 4000000 in
theorem all_ok (A1 A2 : Option Addr) (c1 ml c2 : Nat) (ent : Int) (text : List Int) (w : World) (hT : IntsAt w A1 .u32 text) (hR : ∀ i, i < text.length → 0 ≤ nth text i ∧ nth text i < 4294967296) (hl : text.length ≤ 2048) (hm : ml ≤ 1048576) (hE : (checkI text ml ent).1 = 0) (h0 : 0 < text.length) :
    Calls Try.prog 17 #[.agg #[.slice A1 text.length c1, .int .i64 ent, .slice A2 ml c2]] w (AllOk text ent w) := by
  obtain ⟨X, hX⟩ : ∃ X, w.alloc (.cells #[.slice A1 text.length c1, .int .i64 ent, .slice A2 ml c2] 25) = X := ⟨_, rfl⟩
  have HB : Hid (Below w.heap.size w X) := by unfold Hid; rw [← hX]; exact lb_alloc (Below.refl _ _) _
  have i0 : X.cell? ⟨w.heap.size, 0, none⟩ = some (.slice A1 text.length c1) := by rw [← hX]; simp [go_sem]
  have i1 : X.cell? ⟨w.heap.size, 1, none⟩ = some (.int .i64 ent) := by rw [← hX]; simp [go_sem]
  have i2 : X.cell? ⟨w.heap.size, 2, none⟩ = some (.slice A2 ml c2) := by rw [← hX]; simp [go_sem]
  have C := rows_ok A1 A2 c1 ml c2 ent text X (hT.keep HB.out) hR hl hm hE h0
  have HX : Hid _ := hX
  clear hT hR hX hE
  go_enter Try.func17, Try.ntmps17
  go_upto_region 1 with fail
  rw [HX.out]
  clear HX
  go_wp2_with (go_at_call 28; refine C.mono ?_; rintro e w1 ⟨B, S1, S2, S3, S4, k1, k2, k3, k4, rfl, hB, hS, hlo, hb1⟩; have HLo : Hid (RwAt w.heap.size B S1 S2 S3 S4) := hlo.mono HB.out.size; clear hlo; have HB1 : Hid (Below w.heap.size w w1) := lb_trans HB.out hb1; have HS : Hid _ := hS; have HBs : Hid (w.heap.size ≤ B) := Nat.le_trans HB.out.size hB; clear hb1 hS hB)
  go_ret2
  exact ⟨B, S1, S2, S3, S4, k1, k2, k3, k4, rfl, HBs.out, HS.out, HLo.out, HB1.out⟩

end Go.Proofs.Ytokhclindfipbaa
