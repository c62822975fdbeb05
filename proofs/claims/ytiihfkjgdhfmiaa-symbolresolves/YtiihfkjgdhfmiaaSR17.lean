/-
  A map of meanings in memory: what it knows of each name. learn: a name is kept. Find: what a name stands for.
-/
import Derived.Test.YtiihfkjgdhfmiaaProg
import Derived.WalkKit
import Derived.WalkSpells
import Derived.WalkLawsBesides
import Derived.RowKit3
import Derived.Below
import Derived.Deep.QuietTactic
import Derived.BigQuiet
import Derived.WalkSmall
import Derived.Laws.Rows
import Derived.Test.YtiihfkjgdhfmiaaSR16
import Derived.Maps.OwnSet
import Derived.Maps.Own
import Derived.Maps.OwnOps
import Derived.Test.YtiihfkjgdhfmiaaSR09
import Derived.WalkMore
namespace Go.Proofs.Ytiihfkjgdhfmiaa
open Go.RowKit

open Go.Maps Go.WideMaps
/-- How a meaning reads. -/
def meanElem (v : Value) : Option (DataW Unit × List MemPlace) := match v with
  | .agg xs => match xs.toList with
    | [.int .i64 a, .int .i64 b, .int .i8 k] => some (.agg [.lit (.int .i64 a), .lit (.int .i64 b), .lit (.int .i8 k)], [])
    | _ => none
  | _ => none
theorem mean_inv {v : Value} {z : DataW Unit × List MemPlace} (h : meanElem v = some z) : ∃ a b k : Int, v = .agg #[.int .i64 a, .int .i64 b, .int .i8 k] ∧ z = (.agg [.lit (.int .i64 a), .lit (.int .i64 b), .lit (.int .i8 k)], []) := by
  unfold meanElem at h
  split at h
  · next xs =>
    split at h
    · next a b k e1 =>
      cases h
      refine ⟨a, b, k, ?_, rfl⟩
      have x1 : xs = #[.int .i64 a, .int .i64 b, .int .i8 k] := Array.ext' (by rw [e1])
      rw [x1]
    · cases h
  · cases h
def mVal (v : Option ((Nat × Int) × Int)) : Value := .agg #[.int .i64 (mI v), .int .i64 (mA v), .int .i8 (mK v)]
def mDat (v : Option ((Nat × Int) × Int)) : DataW Unit := .agg [.lit (.int .i64 (mI v)), .lit (.int .i64 (mA v)), .lit (.int .i8 (mK v))]
theorem mean_val (v : Option ((Nat × Int) × Int)) : meanElem (mVal v) = some (mDat v, []) := rfl
theorem mean_of {u : Value} {v : Option ((Nat × Int) × Int)} {ps : List MemPlace} (h : meanElem u = some (mDat v, ps)) : u = mVal v := by
  obtain ⟨a, b, k, rfl, e⟩ := mean_inv h
  unfold mDat at e
  injection e with e1 e2
  injection e1 with e1
  injection e1 with a1 e1
  injection e1 with b1 e1
  injection e1 with k1 e1
  injection a1 with a1; injection a1 with _ a1
  injection b1 with b1; injection b1 with _ b1
  injection k1 with k1; injection k1 with _ k1
  unfold mVal
  rw [a1, b1, k1]
theorem law9m : Keyed Try.prog 9 := string_keyed Try.underlying9
theorem zeroM (w : World) : (zeroValue 73).run Try.prog w = .ok (mVal none) w := by kernel_rfl
/-- A map of meanings, of at most n names. -/
def Knows (w : World) (b n : Nat) (f : ByteArray → Option ((Nat × Int) × Int)) : Prop := ∃ D : DataW Unit, w.ownsMap Try.prog 9 meanElem b n D ∧ ∀ s : ByteArray, Maps.has D (.string s.data.toList) = (f s).isSome ∧ D.atKey (.string s.data.toList) (mDat none) = mDat (f s)
theorem Knows.made (w : World) : Knows (w.alloc (.map #[] 0)) w.heap.size 0 (fun _ => none) := ⟨_, World.ownsMap_made w Try.prog 9 meanElem, fun _s => ⟨rfl, rfl⟩⟩
theorem Knows.lt {w : World} {b n : Nat} {f : ByteArray → Option ((Nat × Int) × Int)} (h : Knows w b n f) : b < w.heap.size := by
  obtain ⟨D, h, _⟩ := h
  exact h.lt
theorem Knows.below {w w1 : World} {B b n : Nat} {f : ByteArray → Option ((Nat × Int) × Int)} (h : Knows w b n f) (hb : Below B w w1) (hB : b < B) : Knows w1 b n f := by
  obtain ⟨D, ⟨es, clock, h1, h2⟩, h3⟩ := h
  exact ⟨D, ⟨es, clock, by rw [hb.block b hB]; exact h1, h2⟩, h3⟩
theorem Knows.keep {w w1 : World} {b n : Nat} {f : ByteArray → Option ((Nat × Int) × Int)} (h : Knows w b n f) (hb : Below w.heap.size w w1) : Knows w1 b n f := h.below hb h.lt
theorem Knows.fit {w : World} {b n : Nat} {f g : ByteArray → Option ((Nat × Int) × Int)} (h : Knows w b n f) (e : ∀ x, f x = g x) : Knows w b n g := by
  obtain ⟨D, h, h3⟩ := h
  exact ⟨D, h, fun s => by rw [← e s]; exact h3 s⟩
theorem Knows.more {w : World} {b n m : Nat} {f : ByteArray → Option ((Nat × Int) × Int)} (h : Knows w b n f) (hn : n ≤ m) : Knows w b m f := by
  obtain ⟨D, h, h3⟩ := h
  exact ⟨D, h.mono hn, h3⟩
theorem key9 {s : ByteArray} (hs : s.size ≤ 140737488355328) : keyOf Try.prog 9 (.string s) = some (.string s.data.toList) := keyOf_string_mk Try.underlying9 (by unfold maxLen; omega)
theorem Knows.look_ok {w : World} {b n : Nat} {f : ByteArray → Option ((Nat × Int) × Int)} (h : Knows w b n f) {s : ByteArray} (hs : s.size ≤ 140737488355328) : (Instr.lookup 62 (.map (some b)) (.string s) true).run Try.prog w = .ok (.tuple #[mVal (f s), .bool (f s).isSome]) w := by
  obtain ⟨D, h, h3⟩ := h
  obtain ⟨v, ps, hrun, hv⟩ := h.look_ok law9m Try.underlying62 (zeroM w) (mean_val none) (key9 hs)
  rw [(h3 s).2] at hv
  rw [hrun, mean_of hv, (h3 s).1]
theorem Knows.look {w : World} {b n : Nat} {f : ByteArray → Option ((Nat × Int) × Int)} (h : Knows w b n f) {s : ByteArray} (hs : s.size ≤ 140737488355328) : (Instr.lookup 62 (.map (some b)) (.string s) false).run Try.prog w = .ok (mVal (f s)) w := by
  obtain ⟨D, h, h3⟩ := h
  obtain ⟨v, ps, hrun, hv⟩ := h.lookup law9m Try.underlying62 (zeroM w) (mean_val none) (key9 hs)
  rw [(h3 s).2] at hv
  rw [hrun, mean_of hv]
theorem Knows.put {w : World} {b n : Nat} {f : ByteArray → Option ((Nat × Int) × Int)} (h : Knows w b n f) (hn : n < 1000000000000) {s : ByteArray} (hs : s.size ≤ 140737488355328) (x : (Nat × Int) × Int) : ∃ w', (Instr.mapUpdate 62 (.map (some b)) (.string s) (mVal (some x))).run Try.prog w = .ok () w' ∧ Knows w' b (n + 1) (putF f s (some x)) ∧ w.grownBy w' (some b) := by
  obtain ⟨D, h, h3⟩ := h
  obtain ⟨w', hrun, h1, hg⟩ := h.update law9m Try.underlying62 (by unfold maxLen; omega) (key9 hs) (mean_val (some x))
  refine ⟨w', hrun, ⟨_, h1, fun y => ?_⟩, hg⟩
  unfold putF
  cases hy : (s.toList == y.toList) with
  | true =>
    rw [bytes_eq hy, if_pos rfl]
    exact ⟨Maps.has_put_same h.isMap (by simp [WideAt.IsKeyLit]) _, Maps.atKey_put_same h.isMap (by simp [WideAt.IsKeyLit]) _ _⟩
  | false =>
    rw [if_neg (by simp)]
    have hne : (Lit.string y.data.toList) ≠ .string s.data.toList := fun e => by
      injection e with e
      have : y.toList = s.toList := by rw [ByteArray.toList_eq, ByteArray.toList_eq]; exact e
      rw [this] at hy
      simp at hy
    rw [Maps.has_put_other hne, Maps.atKey_put_other hne]
    exact h3 y
/-- The same at the operation. -/
theorem wpList_look_ok (w : World) {ops : Array Oper} {rest : List Oper} {o : Oper} {a : Act} {Q : Exit → Act → World → Prop} (hg : o.guard = none) (m x : Operand) (hop : o.op = Op.lookup 62 m x true)
    (b n : Nat) (f : ByteArray → Option ((Nat × Int) × Int)) (hk : Knows w b n f) (s : ByteArray) (hs : s.size ≤ 140737488355328) (hm : a.eval m = .map (some b)) (hx : a.eval x = .string s)
    (hK : wpList Try.prog ops Q rest (a.put o.dst (.tuple #[mVal (f s), .bool (f s).isSome])) w) : wpList Try.prog ops Q (o :: rest) a w := by
  refine wpList_plain hg fun K' hK' => ?_
  have hrun := hk.look_ok hs
  unfold Oper.wp
  simp [execOp, hop, hm, hx, hrun, Result.andThen]
  exact hK' _ _ hK
theorem wpList_look_put (w : World) {ops : Array Oper} {rest : List Oper} {o : Oper} {a : Act} {Q : Exit → Act → World → Prop} (hg : o.guard = none) (m x v : Operand) (hop : o.op = Op.mapUpdate 62 m x v)
    (b n : Nat) (f : ByteArray → Option ((Nat × Int) × Int)) (hk : Knows w b n f) (hn : n < 1000000000000) (s : ByteArray) (hs : s.size ≤ 140737488355328) (y : (Nat × Int) × Int) (hm : a.eval m = .map (some b)) (hx : a.eval x = .string s) (hv : a.eval v = mVal (some y))
    (hK : ∀ w', Knows w' b (n + 1) (putF f s (some y)) → w.grownBy w' (some b) → wpList Try.prog ops Q rest (a.put o.dst undef) w') : wpList Try.prog ops Q (o :: rest) a w := by
  refine wpList_plain hg fun K' hK' => ?_
  obtain ⟨w', hrun, h1, h2⟩ := hk.put hn hs y
  unfold Oper.wp
  simp [execOp, hop, hm, hx, hv, hrun, Result.andThen]
  exact hK' _ _ (hK w' h1 h2)

end Go.Proofs.Ytiihfkjgdhfmiaa

namespace Go.Proofs.Ytiihfkjgdhfmiaa
open Go.RowKit

open Go.Maps Go.WideMaps
theorem grown_alloc {w w1 : World} {b : Nat} (h : w.grownBy w1 (some b)) (o : Obj) : w.grownBy (w1.alloc o) (some b) := h.trans (World.grownBy_alloc w1 o _)
set_option maxHeartbeats 4000000 in
set_option maxRecDepth 100000 in
theorem learn_any (b n : Nat) (f : ByteArray → Option ((Nat × Int) × Int)) (nm : ByteArray) (kd at_ : Int) (i : Nat) (w : World) (hk : Knows w b n f) (hn : n < 1000000000000) (hs : nm.size ≤ 140737488355328) :
    Calls Try.prog 27 #[.map (some b), .int .i64 i, .agg #[.string nm, .int .i8 kd, .int .i64 at_]] w fun e w' => e = .returned (.tuple #[]) ∧ Knows w' b (n + 1) (putF f nm (learnV (f nm) i at_ kd)) ∧ w.grownBy w' (some b) := by
  have HK : Hid (Knows (w.alloc (.cells #[.string nm, .int .i8 kd, .int .i64 at_] 52)) b n f) := hk.keep (lb_alloc (Below.refl _ _) _)
  have HK1 : Hid (Knows ((w.alloc (.cells #[.string nm, .int .i8 kd, .int .i64 at_] 52)).alloc (.cells #[.int .i64 (mI (f nm)), .int .i64 (mA (f nm)), .int .i8 (mK (f nm))] 73)) b n f) := HK.out.keep (lb_alloc (Below.refl _ _) _)
  have HG : Hid (w.grownBy ((w.alloc (.cells #[.string nm, .int .i8 kd, .int .i64 at_] 52)).alloc (.cells #[.int .i64 (mI (f nm)), .int .i64 (mA (f nm)), .int .i8 (mK (f nm))] 73)) (some b)) := (World.grownBy_alloc w _ _).trans (World.grownBy_alloc _ _ _)
  clear hk
  go_enter Try.func27, Try.ntmps27
  cases h1 : (kd == 1) with
  | true =>
    go_wp2_with (first | (at_lookup; refine wpList_look_ok _ rfl _ _ rfl b n f HK.out nm hs rfl rfl ?_; unfold mVal) | (at_mapUpdate; refine wpList_look_put _ rfl _ _ _ rfl b n f HK1.out hn nm hs ((i, at_), kd) rfl rfl rfl ?_; intro w2 hk2 hg2; have HK2 : Hid (Knows w2 b (n + 1) (putF f nm (some ((i, at_), kd)))) := hk2; have HG2 : Hid (w.grownBy w2 (some b)) := HG.out.trans hg2; clear hk2 hg2))
    refine bodyPost_end (v := .tuple #[]) (by simp [results, Try.results27, go_sem]) rfl ?_
    exact ⟨rfl, by rw [learn_yes (Or.inl h1)]; exact HK2.out, HG2.out⟩
  | false =>
    cases h2 : (kd == 2) with
    | true =>
      cases h3 : (f nm).isSome with
      | false =>
        go_wp2_with (first | ((at_lookup; refine wpList_look_ok _ rfl _ _ rfl b n f HK.out nm hs rfl rfl ?_; unfold mVal); rw [h3]) | (at_mapUpdate; refine wpList_look_put _ rfl _ _ _ rfl b n f HK1.out hn nm hs ((i, at_), kd) rfl rfl rfl ?_; intro w2 hk2 hg2; have HK2 : Hid (Knows w2 b (n + 1) (putF f nm (some ((i, at_), kd)))) := hk2; have HG2 : Hid (w.grownBy w2 (some b)) := HG.out.trans hg2; clear hk2 hg2))
        refine bodyPost_end (v := .tuple #[]) (by simp [results, Try.results27, go_sem]) rfl ?_
        exact ⟨rfl, by rw [learn_yes (Or.inr ⟨h2, h3⟩)]; exact HK2.out, HG2.out⟩
      | true =>
        go_wp2_with ((at_lookup; refine wpList_look_ok _ rfl _ _ rfl b n f HK.out nm hs rfl rfl ?_; unfold mVal); rw [h3])
        refine bodyPost_end (v := .tuple #[]) (by simp [results, Try.results27, go_sem]) rfl ?_
        exact ⟨rfl, by rw [learn_no h1 (Or.inr h3)]; exact (HK1.out.fit fun x => (putF_same f nm x).symm).more (Nat.le_succ _), HG.out⟩
    | false =>
      go_wp2_with (at_lookup; refine wpList_look_ok _ rfl _ _ rfl b n f HK.out nm hs rfl rfl ?_; unfold mVal)
      refine bodyPost_end (v := .tuple #[]) (by simp [results, Try.results27, go_sem]) rfl ?_
      exact ⟨rfl, by rw [learn_no h1 (Or.inl h2)]; exact (HK1.out.fit fun x => (putF_same f nm x).symm).more (Nat.le_succ _), HG.out⟩

end Go.Proofs.Ytiihfkjgdhfmiaa

namespace Go.Proofs.Ytiihfkjgdhfmiaa
open Go.RowKit

open Go.Maps Go.WideMaps
theorem grown_below {w w1 w2 : World} {B b : Nat} (h : Below B w w1) (hg : w1.grownBy w2 (some b)) (hb : B ≤ b) (hB : B ≤ w1.heap.size) : Below B w w2 := h.grown hg hB (fun j hj => by cases hj; exact hb)
theorem cell_grown {w w1 : World} {a : Addr} {b : Nat} {v : Value} (h : w.cell? a = some v) (hg : w.grownBy w1 (some b)) (hb : a.block ≠ b) : w1.cell? a = some v := by
  rw [World.cell?_of_block (hg.block a.block ?_ (by simpa using hb))]
  · exact h
  · by_cases hh : a.block < w.heap.size
    · exact hh
    · simp [World.cell?, Array.getElem?_eq_none (by omega : w.heap.size ≤ a.block)] at h
theorem two34 {w0 w1 : World} {g b : Nat} (h : w0.heap[g]? = some (.cells #[.int .i64 0, .int .i64 0] 34 (0, 0))) (hg : w0.grownBy w1 (some b)) (hb : g ≠ b) : w1.cell? ⟨g, 0, none⟩ = some (.int .i64 0) ∧ w1.cell? ⟨g, 1, none⟩ = some (.int .i64 0) ∧ w1.frozen? ⟨g, 0, none⟩ = false ∧ w1.frozen? ⟨g, 1, none⟩ = false := by
  have hl : g < w0.heap.size := by
    by_cases hl : g < w0.heap.size
    · exact hl
    · rw [Array.getElem?_eq_none (by omega)] at h; cases h
  have h1 : w1.heap[g]? = some (.cells #[.int .i64 0, .int .i64 0] 34 (0, 0)) := by rw [hg.block g hl (by simpa using hb)]; exact h
  refine ⟨?_, ?_, ?_, ?_⟩ <;> simp [World.cell?, World.frozen?, h1]
theorem mk62 (w : World) : (Instr.makeMap 62 none).run Try.prog w = .ok (.map (some w.heap.size)) (w.alloc (.map #[] 0)) := by
  simp [Instr.makeMap, Result.andThen]
set_option maxHeartbeats 4000000 in
set_option maxRecDepth 100000 in
theorem pfind_any (A : Option Addr) (ca : Nat) (q : Nat → Pl) (l : List Ob) (nm : ByteArray) (w : World) (hA : ObsIn w A q l) (hs : nm.size ≤ 140737488355328) :
    Calls Try.prog 10 #[.slice A l.length ca, .string nm] w (DefP (findF nm l) w) := by
  have hmm := mk62
  obtain ⟨w0, hw0⟩ : ∃ w0, w0 = (w.alloc (.cells #[.int .i64 0, .int .i64 0] 34)).alloc (.map #[] 0) := ⟨_, rfl⟩
  have hz : w0.heap[w.heap.size]? = some (.cells #[.int .i64 0, .int .i64 0] 34 (0, 0)) := by
    rw [hw0]
    show ((w.heap.push _).push _)[w.heap.size]? = _
    rw [Array.getElem?_push_lt (by simp), Array.getElem_push_eq]
  have hk0 : Knows w0 (w.heap.size + 1) 0 (fun _ => none) := by rw [hw0]; simpa using Knows.made (w.alloc (.cells #[.int .i64 0, .int .i64 0] 34))
  have hb0 : Below w.heap.size w w0 := by rw [hw0]; exact lb_alloc (lb_alloc (Below.refl _ _) _) _
  have HB0 : Hid (Below w.heap.size w w0) := hb0
  have HZ : Hid (w0.heap[w.heap.size]? = some (.cells #[.int .i64 0, .int .i64 0] 34 (0, 0))) := hz
  have HA : Hid (ObsIn w A q l) := hA
  have hf := hA.few
  clear hA hb0 hz
  go_enter Try.func10, Try.ntmps10
  go_wp2
  go_step3
  go_wp2
  go_step3
  go_wp2
  rw [← hw0]
  go_loopw [16] (fun i wr => ∃ (k n : Nat) (f : ByteArray → Option ((Nat × Int) × Int)), i = .int .i64 k ∧ k ≤ l.length ∧ n ≤ 1048576 * k ∧ Hid (Knows wr (w.heap.size + 1) n f) ∧ Hid (f nm = seenF nm l k 0) ∧ Hid (firstF nm 1 l k 0 = none) ∧ Hid (w0.grownBy wr (some (w.heap.size + 1)))) (fun i _ => l.length - (intOf i).toNat)
  case atStart => exact ⟨0, 0, _, rfl, Nat.zero_le _, Nat.zero_le _, hk0, (seen_zero nm l).symm, firstF_zero nm 1 l, ⟨rfl, rfl, rfl, Nat.le_refl _, fun _ _ _ => rfl⟩⟩
  case round =>
    obtain ⟨k, n, f, rfl, hk, hn, HK, HF, H1, HG⟩ := hrel
    by_cases hkl : k < l.length
    · have hkl' : (k : Int) < (l.length : Int) := by omega
      have HBw : Hid (Below w.heap.size w wr) := grown_below HB0.out HG.out (by omega) HB0.out.size
      obtain ⟨a, ea, x0, x1, x2, x3, x4, x5⟩ := HA.out.cells.six HBw.out k hkl
      subst ea
      have hss := (HA.out.each k hkl).hs
      go_wp2
      go_loopw [24] (fun i wr => ∃ (j n : Nat) (f : ByteArray → Option ((Nat × Int) × Int)), i = .int .i64 j ∧ j ≤ (ob l k).ss.length ∧ n ≤ 1048576 * k + j ∧ Hid (Knows wr (w.heap.size + 1) n f) ∧ Hid (f nm = seenF nm l k j) ∧ Hid (firstF nm 1 l k j = none) ∧ Hid (w0.grownBy wr (some (w.heap.size + 1)))) (fun i _ => (ob l k).ss.length - (intOf i).toNat)
      case atStart => exact ⟨0, n, f, rfl, Nat.zero_le _, by omega, HK.out.keep (lb_alloc (Below.refl _ _) _), HF, H1, grown_alloc HG.out _⟩
      case round =>
        clear HK HF H1 HG HBw x0 x1 x2 x3 x4 x5 hn
        clear n f
        obtain ⟨j, n, f, rfl, hj, hn, HK, HF, H1, HG⟩ := hrel
        have HBw : Hid (Below w.heap.size w wr) := grown_below HB0.out HG.out (by omega) HB0.out.size
        by_cases hjl : j < (ob l k).ss.length
        · have hjl' : (j : Int) < ((ob l k).ss.length : Int) := by omega
          obtain ⟨a3, e3, s0, s1, s2⟩ := (HA.out.each k hkl).sy j hjl
          have t0 := lkeep HBw.out s0
          have t1 : wr.cell? ⟨(a3.add (j * 3)).block, (a3.add (j * 3)).off + 1, none⟩ = some (.int .i8 (sKind (ob l k).ss j)) := lkeep HBw.out s1
          have t2 : wr.cell? ⟨(a3.add (j * 3)).block, (a3.add (j * 3)).off + 2, none⟩ = some (.int .i64 (sAt (ob l k).ss j)) := lkeep HBw.out s2
          rw [e3]
          clear s0 s1 s2
          cases hnm : ((sName (ob l k).ss j).toList == nm.toList)
          · have HF2 : Hid (f nm = seenF nm l k (j + 1)) := by rw [Hid, seen_other hkl hjl hnm]; exact HF.out
            have H12 : Hid (firstF nm 1 l k (j + 1) = none) := firstF_same hkl hjl (hitS_no (Or.inl hnm)) H1.out
            go_wp2
            go_roundw
            case rel => exact ⟨j + 1, n, f, by go_num, by omega, by omega, HK.out.keep (lb_alloc (Below.refl _ _) _), HF2, H12, grown_alloc HG.out _⟩
            case measure => simp [intOf]; omega
          · have CL := learn_any (w.heap.size + 1) n f (sName (ob l k).ss j) (sKind (ob l k).ss j) (sAt (ob l k).ss j) k (wr.alloc (.cells #[.string (sName (ob l k).ss j), .int .i8 (sKind (ob l k).ss j), .int .i64 (sAt (ob l k).ss j)] 52)) (HK.out.keep (lb_alloc (Below.refl _ _) _)) (by omega) ((HA.out.each k hkl).hN j)
            have hF2 := find_put hkl hjl hnm HF.out H1.out
            have hlt := HK.out.lt
            go_wp2_with fail
            refine CL.mono ?_
            rintro e w2 ⟨rfl, hk2, hg2⟩
            have u1 : w2.cell? ⟨wr.heap.size, 1, none⟩ = some (.int .i8 (sKind (ob l k).ss j)) := cell_grown (by simp [go_sem]) hg2 (by simp; omega)
            have HG2 : Hid (w0.grownBy w2 (some (w.heap.size + 1))) := (grown_alloc HG.out _).trans hg2
            generalize hf' : putF f (sName (ob l k).ss j) (learnV (f (sName (ob l k).ss j)) k (sAt (ob l k).ss j) (sKind (ob l k).ss j)) = f' at hk2 hF2
            have HF2 : Hid (f' nm = seenF nm l k (j + 1)) := hF2
            have HK2 : Hid (Knows w2 (w.heap.size + 1) (n + 1) f') := hk2
            clear CL hk2 hg2 hf' HK hF2
            cases hd : (sKind (ob l k).ss j == 1)
            · have H12 : Hid (firstF nm 1 l k (j + 1) = none) := firstF_same hkl hjl (hitS_no (Or.inr hd)) H1.out
              go_wp2
              go_roundw
              case rel => exact ⟨j + 1, n + 1, f', by go_num, by omega, by omega, HK2, HF2, H12, HG2⟩
              case measure => simp [intOf]; omega
            · have HT : Hid (Tells (f' nm) (findF nm l)) := by rw [HF2.out]; exact tells_hit hkl hjl hnm H1.out hd
              obtain ⟨z0, z1, y0, y1⟩ := two34 (w1 := w2.alloc (.cells #[.int .i64 (mI (f' nm)), .int .i64 (mA (f' nm)), .int .i8 (mK (f' nm))] 73)) HZ.out (grown_alloc HG2.out _) (by omega)
              have HBz : Hid (Below w.heap.size w (w2.alloc (.cells #[.int .i64 (mI (f' nm)), .int .i64 (mA (f' nm)), .int .i8 (mK (f' nm))] 73))) := grown_below HB0.out (grown_alloc HG2.out _) (by omega) HB0.out.size
              go_wp2_with (at_lookup; refine wpList_look_ok _ rfl _ _ rfl (w.heap.size + 1) _ f' HK2.out nm hs rfl rfl ?_; unfold mVal)
              try rw [Exit.noGoto_ret]
              refine bodyPost_ret (v := .tuple #[.agg #[.int .i64 (mI (f' nm)), .int .i64 (mA (f' nm))], .bool (f' nm).isSome]) (by simp [results, Try.results10, go_sem, z0, z1]) rfl ⟨?_, (HBz.out.setCell (Nat.le_refl _) _).setCell (Nat.le_refl _) _⟩
              rw [HT.out.1, HT.out.2.1, HT.out.2.2]
        · have hjl' : ¬ (j : Int) < ((ob l k).ss.length : Int) := by omega
          obtain rfl : j = (ob l k).ss.length := by omega
          have HF2 : Hid (f nm = seenF nm l (k + 1) 0) := by rw [Hid, seen_next nm l hkl]; exact HF.out
          have H12 : Hid (firstF nm 1 l (k + 1) 0 = none) := by rw [Hid, firstF_next nm 1 l hkl]; exact H1.out
          go_wp2
          go_roundw
          case rel => exact ⟨k + 1, n, f, by go_num, by omega, by omega, HK, HF2, H12, HG⟩
          case measure => simp [intOf]; omega
    · have hkl' : ¬ (k : Int) < (l.length : Int) := by omega
      obtain rfl : k = l.length := by omega
      have HT : Hid (Tells (f nm) (findF nm l)) := by rw [HF.out]; exact tells_full nm l
      obtain ⟨z0, z1, y0, y1⟩ := two34 (w1 := wr.alloc (.cells #[.int .i64 (mI (f nm)), .int .i64 (mA (f nm)), .int .i8 (mK (f nm))] 73)) HZ.out (grown_alloc HG.out _) (by omega)
      have HBz : Hid (Below w.heap.size w (wr.alloc (.cells #[.int .i64 (mI (f nm)), .int .i64 (mA (f nm)), .int .i8 (mK (f nm))] 73))) := grown_below HB0.out (grown_alloc HG.out _) (by omega) HB0.out.size
      go_wp2_with (at_lookup; refine wpList_look_ok _ rfl _ _ rfl (w.heap.size + 1) _ f HK.out nm hs rfl rfl ?_; unfold mVal)
      try rw [Exit.noGoto_ret]
      refine bodyPost_ret (v := .tuple #[.agg #[.int .i64 (mI (f nm)), .int .i64 (mA (f nm))], .bool (f nm).isSome]) (by simp [results, Try.results10, go_sem, z0, z1]) rfl ⟨?_, (HBz.out.setCell (Nat.le_refl _) _).setCell (Nat.le_refl _) _⟩
      rw [HT.out.1, HT.out.2.1, HT.out.2.2]

end Go.Proofs.Ytiihfkjgdhfmiaa
