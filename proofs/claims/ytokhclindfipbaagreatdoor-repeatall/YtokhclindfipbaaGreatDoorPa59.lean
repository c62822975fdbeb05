/-
  The rows of the bag of RepeatAll. A range over what is told, a round in one walk. EqRepeat and EqRepeats of equal ones. Two lists of numbers compared, by the document's helpers: true just if they are one list; the first is at most 2^20 long. Two lists of symbols, of relocations compared, by the document's helpers: true just if they are one list; the first is at most 2^20 long. An object compared with one that is the same, by the document's helper: true; the lists are at most 2^20 long.
-/
import Derived.Test.YtokhclindfipbaaGreatDoorProg
import Derived.WalkKit
import Derived.WalkSpells
import Derived.WalkLawsBesides
import Derived.RowKit3
import Derived.Below
import Derived.Deep.QuietTactic
import Derived.BigQuiet
import Derived.WalkSmall
import Derived.Laws.Rows
import Derived.Test.YtokhclindfipbaaGreatDoorPa57
import Derived.Test.YtokhclindfipbaaGreatDoorPa58
import Derived.Test.YtokhclindfipbaaGreatDoorPa38
import Derived.Test.YtokhclindfipbaaGreatDoorPa46
import Derived.RangeFuncNested
import Derived.RangeFuncBound
import Derived.RangeFuncCalls
import Derived.RangeFuncLeaves
import Derived.Shelf.Abstract
import Derived.Shelf.RegionOpen
import Derived.OwnWalkIn
import Derived.TacticsInMore
import Derived.LoopNIn
import Derived.LoopIn
import Derived.Maps.AppendAt
import Derived.RangeFuncBox
import Derived.Test.YtokhclindfipbaaGreatDoorPa15
import Derived.Test.YtokhclindfipbaaGreatDoorPa47
import Derived.Deep.RegionHeld3
import Derived.Test.YtokhclindfipbaaGreatDoorPa01
namespace Go.Proofs.YtokhclindfipbaaGreatDoor
open Go.RowKit

/-- The lists of ints in the bag: at most three hundred. -/
def rowsB (PT : List Tp) (q : Tp) : List (Value × Nat) := ((PT.take 300).map fun p => (tpV p, p.1.2.length)) ++ (if (tkV PT 300).length < 300 then [(tpV q, q.1.2.length)] else [])
theorem tkV_len (PT : List Tp) (k : Nat) : (tkV PT k).length ≤ k := by
  unfold tkV
  rw [List.length_map, List.length_take]
  omega
theorem rowsB_fst (PT : List Tp) (q : Tp) : (rowsB PT q).map Prod.fst = if (tkV PT 300).length < 300 then tkV PT 300 ++ [tpV q] else tkV PT 300 := by
  unfold rowsB
  have e : ((PT.take 300).map fun p => (tpV p, p.1.2.length)).map Prod.fst = tkV PT 300 := by
    unfold tkV
    rw [List.map_map]
    rfl
  by_cases h : (tkV PT 300).length < 300
  · rw [if_pos h, if_pos h, List.map_append, e]; rfl
  · rw [if_neg h, if_neg h, List.append_nil, e]
theorem rowsB_few (PT : List Tp) (q : Tp) : (rowsB PT q).length ≤ 300 := by
  have h := congrArg List.length (rowsB_fst PT q)
  rw [List.length_map] at h
  have := tkV_len PT 300
  rw [h]
  by_cases c : (tkV PT 300).length < 300
  · rw [if_pos c, List.length_append]
    show _ + 1 ≤ 300
    omega
  · rw [if_neg c]
    exact this
theorem rowsB_mem {PT : List Tp} {q : Tp} {x : Value × Nat} (h : x ∈ rowsB PT q) : ∃ p, (p ∈ PT ∨ p = q) ∧ x = (tpV p, p.1.2.length) := by
  unfold rowsB at h
  rcases List.mem_append.1 h with h | h
  · obtain ⟨p, hp, rfl⟩ := List.mem_map.1 h
    exact ⟨p, .inl (List.mem_of_mem_take hp), rfl⟩
  · by_cases c : (tkV PT 300).length < 300
    · rw [if_pos c, List.mem_singleton] at h
      exact ⟨q, .inr rfl, h⟩
    · rw [if_neg c] at h
      cases h
theorem rv_mem {rs : List (Value × Nat)} {m : Nat} (h : m < rs.length) : (rv rs m, rl rs m) ∈ rs := by
  unfold rv rl
  rw [List.getD_eq_getElem?_getD, List.getElem?_eq_getElem h]
  exact List.getElem_mem h
theorem sep_of {rs : List (Value × Nat)} (h : rs.Pairwise fun x y => ∀ g, x.1.ownBlock = some g → y.1.ownBlock ≠ some g) : Sep rs := fun m m' h1 h2 => by
  have := (List.pairwise_iff_getElem.1 h) m m' (by omega) h2 h1
  intro b hb
  unfold rv at hb ⊢
  rw [List.getD_eq_getElem?_getD, List.getElem?_eq_getElem (by omega)] at hb
  rw [List.getD_eq_getElem?_getD, List.getElem?_eq_getElem h2]
  exact this b hb
theorem rowsB_sep {PT : List Tp} {q : Tp} (h : SepT PT) (hq : ∀ p ∈ PT, ∀ g, (tpV p).ownBlock = some g → (tpV q).ownBlock ≠ some g) : Sep (rowsB PT q) := by
  refine sep_of ?_
  unfold rowsB
  rw [List.pairwise_append]
  refine ⟨?_, ?_, ?_⟩
  · rw [List.pairwise_map]
    exact List.Pairwise.sublist (List.take_sublist 300 PT) h
  · by_cases c : (tkV PT 300).length < 300
    · rw [if_pos c]
      exact List.pairwise_singleton _ _
    · rw [if_neg c]
      exact List.Pairwise.nil
  · intro x hx y hy
    obtain ⟨p, hp, rfl⟩ := List.mem_map.1 hx
    by_cases c : (tkV PT 300).length < 300
    · rw [if_pos c, List.mem_singleton] at hy
      subst hy
      exact hq p (List.mem_of_mem_take hp)
    · rw [if_neg c] at hy
      cases hy
/-- The bag's lists lie apart. -/
theorem apart_bag (B : Nat) (g : Nat → Value) (PT : List Tp) (q : Tp) (O : Option Addr) (c b0 b1 b2 : Nat) (w : World) (h : BgS w B (if (tkV PT 300).length < 300 then tkV PT 300 ++ [tpV q] else tkV PT 300) [.slice O PT.length c] g)
    (hT : TpAt w b0 PT) (hS : SepT PT) (hq : w.ownsRow b1 3 1 (tpV q) q.1.2.length (iVals .i64 (nV64 q.1.2))) (hSq : ∀ p ∈ PT, ∀ g, (tpV p).ownBlock = some g → (tpV q).ownBlock ≠ some g) (hO : w.ownsRow b2 69 2 (.slice O PT.length c) PT.length (dTp PT)) (hL : ∀ p ∈ PT, p.1.2.length ≤ 1048576) (hL2 : q.1.2.length ≤ 1048576) (hl : PT.length ≤ 1048576) :
    Calls Tryz.prog 21 #[.pointer (some ⟨B, 0, none⟩)] w fun r w' => r = .returned (.bool true) ∧ FrB (Pk (rowsB PT q) [(.slice O PT.length c, PT.length)] 17) w w' := by
  have hr1 := h.r1
  rw [← rowsB_fst] at hr1
  rw [List.length_map] at hr1
  refine apartM B g (rowsB PT q) [(.slice O PT.length c, PT.length)] w h.is (ownsRow_mono hr1 (Nat.zero_le _)) (ownsRow_mono h.r14 (Nat.zero_le _)) h.nil ⟨fun m hm => ?_, fun m hm => ?_⟩ (rowsB_sep hS hSq) ?_ (rowsB_few PT q) (by simp) (fun m => ?_) (fun m => ?_)
  · obtain ⟨p, hp, e⟩ := rowsB_mem (rv_mem hm)
    injection e with e1 e2
    rw [e1, e2]
    rcases hp with hp | rfl
    · exact ⟨_, ownsRow_mono (hT p hp) (Nat.zero_le _)⟩
    · exact ⟨_, ownsRow_mono hq (Nat.zero_le _)⟩
  · obtain rfl : m = 0 := by simpa using hm
    exact ⟨_, ownsRow_mono hO (Nat.zero_le _)⟩
  · intro m m' h1 h2
    simp at h2
    omega
  · by_cases hm : m < (rowsB PT q).length
    · obtain ⟨p, hp, e⟩ := rowsB_mem (rv_mem hm)
      injection e with e1 e2
      rw [e2]
      rcases hp with hp | rfl
      · exact hL p hp
      · exact hL2
    · unfold rl
      rw [List.getD_eq_getElem?_getD, List.getElem?_eq_none (by omega)]
      exact Nat.zero_le _
  · unfold rl
    cases m with
    | zero => exact hl
    | succ m => exact Nat.zero_le _

end Go.Proofs.YtokhclindfipbaaGreatDoor

namespace Go.Proofs.YtokhclindfipbaaGreatDoor
open Go.RowKit

attribute [local go_sem] Oper.semAt_some

set_option maxHeartbeats 2000000 in
/-- A range over the sequences, a round in one walk; however it ends. -/
theorem range_eachW {g : Operand} {ps : Array Tmp} {assign body : Code} {Q : Exit → Act → World → Prop} {a : Act} {w : World} (n : Nat) (hn : 3 ≤ n) (x n0 B : Nat) (A1 A2 A3 A4 : Option Addr) (c1 c2 c3 c4 : Nat) (nm : List Int) (en : Nat → Nat) (he : EnP nm en) (hl : nm.length ≤ 2048)
    (hg : a.eval g = .func (.func 37) #[.pointer (some ⟨B, 0, none⟩)] #[]) (hps : ps.size = 1)
    (hn0 : n0 ≤ w.heap.size) (I Ix : List (Nat × Nat) → World → Prop) (hO : ∀ T W, I T W → RwS W B A1 A2 A3 A4 c1 c2 c3 c4 nm en)
    (hI : ∀ T W W', I T W → Turn w.heap.size W W' → I T W') (hIx : ∀ T W W', Ix T W → Turn w.heap.size W W' → Ix T W') (h0 : I [] w)
    (hround : ∀ (l0 : Nat) (T : List (Nat × Nat)) (r : Nat × Nat) (O : Option Addr) (c : Nat) (W Wq : World), T ++ [r] <+: eachL nm en → I T Wq → w.heap.size ≤ Wq.heap.size → Below Wq.heap.size Wq W → W.ownsRow Wq.heap.size 3 1 (.slice O (plcS nm en r.2 r.1).length c) (plcS nm en r.2 r.1).length (iVals .i64 (nV64 (plcS nm en r.2 r.1))) →
      assign.wpIn (Fence.wide.inRound l0) (n - 1 - 1) Tryz.prog (Exit.then (fun a1 W2 => Below W.heap.size W W2 ∧ ∀ W3, Turn w.heap.size W2 W3 → body.wpIn (Fence.wide.inRound l0) (n - 1 - 1) Tryz.prog (RoundQ n0 w.heap.size x I Ix (T ++ [r]) W3) a1 W3) (fun _ _ _ => False)) { tmps := (ps.zip #[repV r.1 O (plcS nm en r.2 r.1).length c]).foldl (fun t (p, v) => t.setIfInBounds p v) a.tmps, defers := [] } W)
    (hQ : ∀ a' W, Q .normal a' W → Q (.exit x) a' W)
    (hend : ∀ (D : Nat) (W : World), w.heap.size ≤ D → (I (eachL nm en) W ∨ ∃ T, T <+: eachL nm en ∧ Ix T W) → W.heap[D]? = some (.deferred (some [])) → Q .normal { a with defers := { target := .collected D, args := #[] } :: a.defers } W) :
    (Code.rangeFunc g ps assign body).wpIn Fence.wide n Tryz.prog Q a w := by
  refine wpIn_rangeFunc fun fn hfn => ?_
  obtain ⟨rec, hrec⟩ : ∃ rec : LoopState → Option Code → Loop, rec = fun st pe => { state := st, pending := pe, fn, tmps := a.tmps, params := ps, assign, body, defers := w.heap.size } := ⟨_, rfl⟩
  obtain ⟨W1, hW1⟩ : ∃ W1, (w.alloc (.deferred (some []))).alloc (.loop (rec .ready none)) = W1 := ⟨_, rfl⟩
  have b1 : Below w.heap.size w W1 := by rw [← hW1]; exact lb_alloc (lb_alloc (Below.refl _ _) _) _
  have L1 : W1.heap[w.heap.size + 1]? = some (.loop (rec .ready none)) := by
    rw [← hW1]; have := World.alloc_heap_new (w.alloc (.deferred (some []))) (.loop (rec .ready none)); rwa [World.size_alloc] at this
  have D1 : W1.heap[w.heap.size]? = some (.deferred (some [])) := by
    rw [← hW1]; exact (Below.heap_alloc _ _ _ (by simp)).trans (World.alloc_heap_new w _)
  have size : ∀ {W : World} {o : Obj}, W.heap[w.heap.size + 1]? = some o → w.heap.size ≤ W.heap.size := fun h => by
    have := (Array.getElem?_eq_some_iff.1 h).1
    omega
  refine ⟨w.heap.size + 1, [{ target := .collected w.heap.size, args := #[] }], W1, { target := .fn (.func 37) #[], args := #[.pointer (some ⟨B, 0, none⟩), .func (.yield (w.heap.size + 1)) #[] #[]] }, W1, 37, #[.pointer (some ⟨B, 0, none⟩), .func (.yield (w.heap.size + 1)) #[] #[]], W1, ?_, ?_, fun _ _ => trivial, ?_, (fun h => by cases h), ?_⟩
  · rw [← hW1, hrec]; exact run_enterLoop_outer _ _ _ _ _
  · simp only [resolve, hg]
    simp [go_sem]
  · have eg := enters_of Tryz.func37 (by kernel_rfl) rfl
    simp [invoke, go_sem, eg _ _]
  · refine (each1_any (n - 1) (by omega) (w.heap.size + 1) B A1 A2 A3 A4 c1 c2 c3 c4 nm en he hl n0
      (fun T W => I T W ∧ W.heap[w.heap.size + 1]? = some (.loop (rec .ready none)) ∧ W.heap[w.heap.size]? = some (.deferred (some [])))
      (fun T W => Ix T W ∧ W.heap[w.heap.size + 1]? = some (.loop (rec .done (some (.exit x)))) ∧ W.heap[w.heap.size]? = some (.deferred (some [])))
      (fun T W W' h hb => ⟨hI T W W' h.1 (Turn.of hb (size h.2.1)), (hb.block _ (Array.getElem?_eq_some_iff.1 h.2.1).1).trans h.2.1, (hb.block _ (Array.getElem?_eq_some_iff.1 h.2.2).1).trans h.2.2⟩)
      (fun T W h => ⟨hO T W h.1, Nat.le_trans hn0 (size h.2.1)⟩) ?round W1 ⟨hI [] w W1 h0 (Turn.of b1 (Nat.le_refl _)), L1, D1⟩).mono ?_
    case round =>
      rintro T r O c Wq W hp ⟨hiq, hlq, hdq⟩ hbq hrow
      have hzq := size hlq
      have hl := (hbq.block _ (Array.getElem?_eq_some_iff.1 hlq).1).trans hlq
      have hd := (hbq.block _ (Array.getElem?_eq_some_iff.1 hdq).1).trans hdq
      have hlt : w.heap.size + 1 < W.heap.size := (Array.getElem?_eq_some_iff.1 hl).1
      have hy := run_yield (P := Tryz.prog) (args := #[repV r.1 O (plcS nm en r.2 r.1).length c]) hl (by rw [hrec]; simp [hps])
      rw [hrec] at hy
      refine ⟨fn, _, assign, body, hy, roundIn_of_wpIn hfn (wpIn_mono (hround (w.heap.size + 1) T r O c W Wq hp hiq hzq hbq hrow) fun e0 a1 W2 h2 => ?_)⟩
      cases e0 with
      | normal => ?_
      | _ => exact h2.elim
      obtain ⟨hb2, hbody⟩ := h2
      have hsz := hb2.size
      have hl2 : W2.heap[w.heap.size + 1]? = some (.loop (rec .ready none)) := (hb2.block _ hlt).trans hl
      have hd2 : W2.heap[w.heap.size]? = some (.deferred (some [])) := (hb2.block _ (by omega)).trans hd
      have hlt2 : w.heap.size + 1 < W2.heap.size := by omega
      refine ⟨_, run_beginRound hl2 (by rw [hrec]), ?_⟩
      have tn : Turn w.heap.size W2 (W2.putObj (w.heap.size + 1) (.loop { rec .ready none with state := .busy })) := Turn.put hl2 rfl (by omega)
      have l2 : (W2.putObj (w.heap.size + 1) (.loop { rec .ready none with state := .busy })).heap[w.heap.size + 1]? = some (.loop { rec .ready none with state := .busy }) := World.putObj_heap_same hlt2
      have d2 : (W2.putObj (w.heap.size + 1) (.loop { rec .ready none with state := .busy })).heap[w.heap.size]? = some (.deferred (some [])) := (World.putObj_heap_other (by omega)).trans hd2
      refine wpIn_mono (hbody _ tn) ?_
      intro e a3 W3 hq
      cases e with
      | normal =>
        obtain ⟨k3, i3⟩ := hq
        have l3 := k3.other _ _ l2 (by omega) rfl
        have d3 := k3.other _ _ d2 (Nat.le_refl _) rfl
        have hr := run_endRound (P := Tryz.prog) none l3
        refine ⟨_, _, hr, .inl ⟨rfl, hI _ _ _ i3 (Turn.put l3 rfl (by omega)), ?_, (World.putObj_heap_other (by omega)).trans d3⟩⟩
        rw [World.putObj_heap_same (Array.getElem?_eq_some_iff.1 l3).1, hrec]
        rfl
      | exit y =>
        obtain ⟨k3, rfl, i3⟩ := hq
        have l3 := k3.other _ _ l2 (by omega) rfl
        have d3 := k3.other _ _ d2 (Nat.le_refl _) rfl
        have hr := run_endRound (P := Tryz.prog) (some (.exit y)) l3
        refine ⟨_, _, hr, .inr ⟨rfl, hIx _ _ _ i3 (Turn.put l3 rfl (by omega)), ?_, (World.putObj_heap_other (by omega)).trans d3⟩⟩
        rw [World.putObj_heap_same (Array.getElem?_eq_some_iff.1 l3).1, hrec]
        rfl
      | ret => exact hq.elim
      | goto t => exact hq.elim
      | panic ch => exact hq.elim
      | outgrown => exact hq.elim
    rintro e W2 ⟨⟨v, rfl⟩, ⟨hi, hl, hd⟩ | ⟨T, hT, hi, hl, hd⟩⟩
    · exact ⟨none, _, by have := run_endLoop (P := Tryz.prog) hl (by rw [hrec]; simp); rw [hrec] at this; exact this, hend _ _ (Nat.le_refl _) (.inl (hI _ _ _ hi (Turn.put hl rfl (by omega)))) ((World.putObj_heap_other (by omega)).trans hd)⟩
    · exact ⟨some (.exit x), _, by have := run_endLoop (P := Tryz.prog) hl (by rw [hrec]; simp); rw [hrec] at this; exact this, wpIn_exit (hQ _ _ (hend _ _ (Nat.le_refl _) (.inr ⟨T, hT, hIx _ _ _ hi (Turn.put hl rfl (by omega))⟩) ((World.putObj_heap_other (by omega)).trans hd)))⟩

end Go.Proofs.YtokhclindfipbaaGreatDoor

namespace Go.Proofs.YtokhclindfipbaaGreatDoor
open Go.RowKit

set_option maxRecDepth 100000 in
set_option maxHeartbeats 1000000 in
theorem eqrepeat_same (n : Nat) (L : List Int) (A B : Option Addr) (c d : Nat) (w : World) (hA : IntsAt w A .i64 L) (hB : IntsAt w B .i64 L) (hl : L.length ≤ 1048576) :
    Calls Tryz.prog 20 #[.agg #[.int .i64 (n : Int), .slice A L.length c], .agg #[.int .i64 (n : Int), .slice B L.length d]] w fun e w' => e = .returned (.bool true) ∧ Below w.heap.size w w' := by
  have E := fun wx (hx : Below w.heap.size w wx) => eqints_any A B c d L L wx (hA.keep hx) (hB.keep hx) hl
  simp only [decide_true] at E
  go_enter Tryz.func20, Tryz.ntmps20
  go_wp2_with fail
  refine (E _ (lb_alloc (lb_alloc (Below.refl _ _) _) _)).mono ?_
  rintro e w0 ⟨rfl, hb0⟩
  go_wp2
  go_ret
  exact ⟨rfl, lb_trans (lb_alloc (lb_alloc (Below.refl _ _) _) _) hb0⟩
theorem fsts_nth {PT QT : List Tp} (h : fsts PT = fsts QT) {j : Nat} (hj : j < PT.length) : (pth QT j).1 = (pth PT j).1 := by
  have e := congrArg (fun l => l[j]?) h
  unfold fsts at e
  have hl : PT.length = QT.length := by
    have := congrArg List.length h
    unfold fsts at this
    rwa [List.length_map, List.length_map] at this
  simp only [List.getElem?_map] at e
  rw [List.getElem?_eq_getElem hj, List.getElem?_eq_getElem (by omega : j < QT.length)] at e
  simp only [Option.map_some, Option.some.injEq] at e
  unfold pth
  rw [List.getD_eq_getElem?_getD, List.getD_eq_getElem?_getD, List.getElem?_eq_getElem hj, List.getElem?_eq_getElem (by omega : j < QT.length)]
  exact e.symm
set_option maxRecDepth 100000 in
set_option maxHeartbeats 4000000 in
theorem eqrepeats_same (A B : Option Addr) (cA cB : Nat) (PT QT : List Tp) (w : World) (hA : TpsAt w A PT) (hB : TpsAt w B QT) (h : fsts PT = fsts QT) (hl : PT.length ≤ 1048576) (hL : ∀ p ∈ PT, p.1.2.length ≤ 1048576) :
    Calls Tryz.prog 13 #[.slice A PT.length cA, .slice B QT.length cB] w fun e w' => e = .returned (.bool true) ∧ Below w.heap.size w w' := by
  have hle : QT.length = PT.length := by
    have := congrArg List.length h
    unfold fsts at this
    rw [List.length_map, List.length_map] at this
    exact this.symm
  have HA : Hid (TpsAt w A PT) := hA
  have HB : Hid (TpsAt w B QT) := hB
  have HF : Hid (fsts PT = fsts QT) := h
  have HL : Hid (∀ p ∈ PT, p.1.2.length ≤ 1048576) := hL
  have HQl : Hid (QT.length = PT.length) := hle
  rw [hle]
  have hll : ((PT.length : Int) == (PT.length : Int)) = true := beq_self_eq_true _
  clear hA hB h hL hle
  go_enter Tryz.func13, Tryz.ntmps13
  go_wp2
  go_loopw [5] (fun v wr => ∃ k : Nat, v = .int .i64 (k : Int) ∧ k ≤ PT.length ∧ Hid (Below w.heap.size w wr)) (fun v _ => PT.length - (intOf v).toNat)
  case atStart => exact ⟨0, rfl, Nat.zero_le _, Below.refl _ _⟩
  case round =>
    obtain ⟨k, rfl, hk, HW⟩ := hrel
    by_cases hlt : k < PT.length
    · have hlt' : (k : Int) < (PT.length : Int) := by omega
      obtain ⟨a, ea, x0, x1, x2⟩ := (HA.out.keep HW.out) k hlt
      obtain ⟨b, eb, y0, y1, y2⟩ := (HB.out.keep HW.out) k (by rw [HQl.out]; exact hlt)
      have e := fsts_nth HF.out hlt
      have hlp := HL.out _ (pth_mem hlt)
      subst ea
      subst eb
      unfold tpV at x1 y1
      obtain ⟨⟨⟨n, L⟩, ⟨O, c⟩⟩, hp⟩ : ∃ p, pth PT k = p := ⟨_, rfl⟩
      obtain ⟨⟨⟨m, M⟩, ⟨O', c'⟩⟩, hq⟩ : ∃ p, pth QT k = p := ⟨_, rfl⟩
      rw [hp] at x0 x1 x2 e hlp
      rw [hq] at y0 y1 y2 e
      cases e
      have C := fun Z (hZ : Below wr.heap.size wr Z) => eqrepeat_same n (nV64 L) O O' c c' Z (x2.keep hZ) (y2.keep hZ) (by rw [nV64_len]; exact hlp)
      simp only [nV64_len] at C
      simp only at x0 x1 y0 y1
      clear hp hq x2 y2 hlp
      have HX : Hid (∀ Z, Below wr.heap.size wr Z → Z.cell? (a.add (k * 2)) = some (.int .i64 (n : Int)) ∧ Z.cell? ⟨(a.add (k * 2)).block, (a.add (k * 2)).off + 1, none⟩ = some (.slice O L.length c) ∧ Z.cell? (b.add (k * 2)) = some (.int .i64 (n : Int)) ∧ Z.cell? ⟨(b.add (k * 2)).block, (b.add (k * 2)).off + 1, none⟩ = some (.slice O' L.length c')) := fun Z hZ => ⟨lkeep hZ x0, lkeep hZ x1, lkeep hZ y0, lkeep hZ y1⟩
      have BX : Below wr.heap.size wr wr.drew := (Below.refl _ _).drew
      go_upto_region 6 with fail
      go_region_held3 (fun Z => Z.cell? (a.add (k * 2)) = some (.int .i64 (n : Int)) ∧ Z.cell? ⟨(a.add (k * 2)).block, (a.add (k * 2)).off + 1, none⟩ = some (.slice O L.length c) ∧ Z.cell? (b.add (k * 2)) = some (.int .i64 (n : Int)) ∧ Z.cell? ⟨(b.add (k * 2)).block, (b.add (k * 2)).off + 1, none⟩ = some (.slice O' L.length c')) (first | exact HX.out _ (Below.refl _ _) | exact HX.out _ (lb_trans BX hb5) | exact HX.out _ BX) (first | (go_at_call 20; refine (C _ BX).mono ?_; rintro e w5 ⟨rfl, hb5⟩))
      have HB5 : Hid (Below w.heap.size w w5) := lb_trans HW.out (lb_trans BX hb5)
      clear hb5 BX C HX x0 x1 y0 y1
      go_wp2
      go_roundw
      case rel => exact ⟨k + 1, by go_num, by omega, HB5⟩
      case measure => simp [intOf]; omega
    · obtain rfl : k = PT.length := by omega
      have hlt' : ¬ (PT.length : Int) < (PT.length : Int) := by omega
      go_wp2
      go_ret
      exact ⟨rfl, HW.out⟩

end Go.Proofs.YtokhclindfipbaaGreatDoor

namespace Go.Proofs.YtokhclindfipbaaGreatDoor
open Go.RowKit

set_option maxRecDepth 100000 in
set_option maxHeartbeats 1000000 in
theorem eqwords_any (A B : Option Addr) (ca cb : Nat) (zs ys : List Int) (w : World) (hA : IntsAt w A .u32 zs) (hB : IntsAt w B .u32 ys) (hz : zs.length ≤ 1048576) :
    Calls Tryz.prog 33 #[.slice A zs.length ca, .slice B ys.length cb] w fun e w' => e = .returned (.bool (decide (zs = ys))) ∧ Below w.heap.size w w' := by
  by_cases hl : zs.length = ys.length
  · have hl' : ((zs.length : Int) == (ys.length : Int)) = true := by rw [hl]; simp
    have HL : Hid (zs.length = ys.length) := hl
    clear hl
    go_enter Tryz.func33, Tryz.ntmps33
    go_wp2
    go_loopw [5] (fun i wr => ∃ (k m : Nat), i = .int .i64 k ∧ k ≤ zs.length ∧ wr = w.drewN m ∧ Hid (zs.take k = ys.take k)) (fun i _ => zs.length - (intOf i).toNat)
    case atStart => exact ⟨0, 0, rfl, by omega, rfl, by simp [Hid]⟩
    case round =>
      obtain ⟨k, m, rfl, hk, rfl, HT⟩ := hrel
      by_cases hlt : k < zs.length
      · obtain ⟨a, rfl, c1⟩ := hA k hlt
        obtain ⟨b, rfl, c2⟩ := hB k (by have := HL.out; omega)
        have hlt2 : (k : Int) < (ys.length : Int) := by have := HL.out; omega
        by_cases he : nth zs k = nth ys k
        · have HE : Hid (nth zs k = nth ys k) := he
          have he' : (nth zs k == nth ys k) = true := by simpa using he
          clear he
          go_wp2_with fail
          go_quiet (fail)
          go_wp2
          go_roundw
          case rel => exact ⟨k + 1, _, by go_num, by omega, rfl, take_same HT.out hlt (by omega) HE.out⟩
          case measure => simp [intOf]; omega
        · have HE : Hid (¬ nth zs k = nth ys k) := he
          have he' : (nth zs k == nth ys k) = false := by simpa using he
          clear he
          go_wp2_with fail
          go_quiet (fail)
          go_wp2
          go_ret
          exact ⟨retB (decide_eq_false (nth_ne HE.out)).symm, below_drewN (below_drewN (Below.refl _ _) _) _⟩
      · go_wp2
        go_ret
        exact ⟨retB (decide_eq_true (take_all HT.out (by omega) HL.out)).symm, below_drewN (Below.refl _ _) _⟩
  · have hl' : ((zs.length : Int) == (ys.length : Int)) = false := by simp; omega
    have HL : Hid (¬ zs.length = ys.length) := hl
    clear hl
    go_enter Tryz.func33, Tryz.ntmps33
    go_wp2
    go_ret
    exact ⟨retB (decide_eq_false (fun h => HL.out (by rw [h]))).symm, Below.refl _ _⟩

set_option maxRecDepth 100000 in
set_option maxHeartbeats 1000000 in
theorem eqlongs_any (A B : Option Addr) (ca cb : Nat) (zs ys : List Int) (w : World) (hA : IntsAt w A .i64 zs) (hB : IntsAt w B .i64 ys) (hz : zs.length ≤ 1048576) :
    Calls Tryz.prog 34 #[.slice A zs.length ca, .slice B ys.length cb] w fun e w' => e = .returned (.bool (decide (zs = ys))) ∧ Below w.heap.size w w' := by
  by_cases hl : zs.length = ys.length
  · have hl' : ((zs.length : Int) == (ys.length : Int)) = true := by rw [hl]; simp
    have HL : Hid (zs.length = ys.length) := hl
    clear hl
    go_enter Tryz.func34, Tryz.ntmps34
    go_wp2
    go_loopw [5] (fun i wr => ∃ (k m : Nat), i = .int .i64 k ∧ k ≤ zs.length ∧ wr = w.drewN m ∧ Hid (zs.take k = ys.take k)) (fun i _ => zs.length - (intOf i).toNat)
    case atStart => exact ⟨0, 0, rfl, by omega, rfl, by simp [Hid]⟩
    case round =>
      obtain ⟨k, m, rfl, hk, rfl, HT⟩ := hrel
      by_cases hlt : k < zs.length
      · obtain ⟨a, rfl, c1⟩ := hA k hlt
        obtain ⟨b, rfl, c2⟩ := hB k (by have := HL.out; omega)
        have hlt2 : (k : Int) < (ys.length : Int) := by have := HL.out; omega
        by_cases he : nth zs k = nth ys k
        · have HE : Hid (nth zs k = nth ys k) := he
          have he' : (nth zs k == nth ys k) = true := by simpa using he
          clear he
          go_wp2_with fail
          go_quiet (fail)
          go_wp2
          go_roundw
          case rel => exact ⟨k + 1, _, by go_num, by omega, rfl, take_same HT.out hlt (by omega) HE.out⟩
          case measure => simp [intOf]; omega
        · have HE : Hid (¬ nth zs k = nth ys k) := he
          have he' : (nth zs k == nth ys k) = false := by simpa using he
          clear he
          go_wp2_with fail
          go_quiet (fail)
          go_wp2
          go_ret
          exact ⟨retB (decide_eq_false (nth_ne HE.out)).symm, below_drewN (below_drewN (Below.refl _ _) _) _⟩
      · go_wp2
        go_ret
        exact ⟨retB (decide_eq_true (take_all HT.out (by omega) HL.out)).symm, below_drewN (Below.refl _ _) _⟩
  · have hl' : ((zs.length : Int) == (ys.length : Int)) = false := by simp; omega
    have HL : Hid (¬ zs.length = ys.length) := hl
    clear hl
    go_enter Tryz.func34, Tryz.ntmps34
    go_wp2
    go_ret
    exact ⟨retB (decide_eq_false (fun h => HL.out (by rw [h]))).symm, Below.refl _ _⟩



end Go.Proofs.YtokhclindfipbaaGreatDoor
