/-
  An object that came in, opened: its name, its lists, where they lie; no condition. The weight of a list of objects. What a list of objects that is handed in is. The layout's iterator, and what a range over it is.
-/
import Derived.Test.YthpkekpojhmaaaaGreatDoorProg
import Derived.WalkKit
import Derived.ProofKit
import Derived.OpenShut
import Derived.Stop.Joined
import Derived.Carry
import Derived.Lib.SmallJoins
import Derived.Deep.SlicePairs
import Derived.Deep.Strs
import Derived.SizedLaws
import Derived.Test.YthpkekpojhmaaaaGreatDoorP01
import Derived.WalkSpells
import Derived.WalkLawsBesides
import Derived.RowKit3
import Derived.Below
import Derived.Deep.QuietTactic
import Derived.BigQuiet
import Derived.WalkSmall
import Derived.Laws.Rows
import Derived.Test.YthpkekpojhmaaaaGreatDoorP19
import Derived.Test.YthpkekpojhmaaaaGreatDoorP21
import Derived.RangeFuncNested
import Derived.RangeFuncBound
import Derived.RangeFuncCalls
import Derived.RangeFuncLeaves
import Derived.Shelf.Abstract
import Derived.Shelf.RegionOpen
import Derived.OwnWalkIn
import Derived.TacticsInMore
import Derived.LoopNIn
import Derived.LoopIn
import Derived.Test.YthpkekpojhmaaaaGreatDoorP22
namespace Go.Proofs.YthpkekpojhmaaaaGreatDoor
open Go.ChangeShapes Go.WideShapes Go.ChangeAt Go.RowKit Go.Joins

theorem open_i {H : Type} {enc : TypeId × Value → H} {W : World} {base : Nat} {sp : Nat → Bool} {held : Bool} {fuel : Nat} {cs : List Value} {x : DataW H × List MemPlace} {t e : TypeId} {k : IntKind} (ht : Tryz.prog.underlying t = some (.slice e)) (he : Tryz.prog.underlying e = some (.int k)) (hc : Tryz.prog.cellsOf e = 1) (h : DataW.trod enc Tryz.prog W base sp held fuel t cs = some x) :
    ∃ (O : Option Addr) (cap : Nat) (zs : List Int), cs = [.slice O zs.length cap] ∧ IntsAt W O k zs ∧ zs.length ≤ maxLen ∧ (∀ i, i < zs.length → (Lit.int k (nth zs i)).wf = true) ∧ (O = none → cap = 0) := by
  rcases open_ints ht he hc h with ⟨rfl, _⟩ | ⟨a, len, cap, zs, rfl, _, hl, hm, hz, _, hcell, hwf⟩
  · exact ⟨none, 0, [], rfl, fun i hi => by simp at hi, by simp, fun i hi => by simp at hi, fun _ => rfl⟩
  · have hlen : len ≤ zs.length := by rw [hz]; split <;> omega
    have hn : ∀ i, i < len → nth (zs.take len) i = zs.getD i 0 := fun i hi => by simp [nth, List.getD, hi]
    have hl2 : (zs.take len).length = len := by rw [List.length_take, Nat.min_eq_left hlen]
    refine ⟨some a, cap, zs.take len, by rw [hl2], ?_, by omega, ?_, fun h => by cases h⟩
    · intro i hi
      rw [hl2] at hi
      exact ⟨a, rfl, by rw [hn i hi]; exact hcell i (by omega)⟩
    · intro i hi
      rw [hl2] at hi
      rw [hn i hi]
      refine hwf _ ?_
      simp [List.getD, show i < zs.length by omega]
theorem mk_at {α : Type} (f : Nat → α) (n : Nat) (z : α) (i : Nat) (h : i < n) : ((List.range n).map f).getD i z = f i := by simp [List.getD, h]
theorem open_rels {H : Type} {enc : TypeId × Value → H} {W : World} {base : Nat} {sp : Nat → Bool} {held : Bool} {fuel : Nat} {cs : List Value} {x : DataW H × List MemPlace} (h : DataW.trod enc Tryz.prog W base sp held fuel 73 cs = some x) :
    ∃ (O : Option Addr) (cap : Nat) (zs : List Rel), cs = [.slice O zs.length cap] ∧ RelsAt W O zs ∧ zs.length ≤ maxLen ∧ (O = none → cap = 0) := by
  rcases Deep.open_slice_pairs Tryz.underlying73 Tryz.underlying83 (by kernel_rfl) rfl rfl (by kernel_rfl) (by kernel_rfl) h with ⟨rfl, _⟩ | ⟨a, len, cap, m, n, V0, V1, D0, D1, P0, P1, rfl, _, hl, hm, hmm, _, hx⟩
  · exact ⟨none, 0, [], rfl, fun i hi => by simp at hi, by simp, fun _ => rfl⟩
  · have hlm : len ≤ m := by rw [hmm]; split <;> omega
    have each : ∀ i, ∃ q : Rel, i < len → W.cell? (a.add (i * 2)) = some (.int .i64 q.1) ∧ W.cell? (a.add (i * 2 + 1)) = some (.int .i64 q.2) := by
      intro i
      by_cases hi : i < len
      · obtain ⟨h0, h1, t0, t1⟩ := hx i (by omega)
        obtain ⟨u, e0, _, _⟩ := DataW.trod_int Tryz.underlying3 t0
        obtain ⟨v, e1, _, _⟩ := DataW.trod_int Tryz.underlying3 t1
        simp at e0 e1
        exact ⟨(u, v), fun _ => ⟨by rw [h0, e0], by rw [h1, e1]⟩⟩
      · exact ⟨(0, 0), fun h => absurd h hi⟩
    obtain ⟨f, hf⟩ := Classical.axiomOfChoice each
    refine ⟨some a, cap, (List.range len).map f, by simp, ?_, by simp; omega, fun h => by cases h⟩
    intro i hi
    have hi' : i < len := by simpa using hi
    refine ⟨a, rfl, ?_, ?_⟩
    · unfold rAt; rw [mk_at _ _ _ _ hi']; exact (hf i hi').1
    · unfold rSym; rw [mk_at _ _ _ _ hi', Deep.add_add]; exact (hf i hi').2
theorem mem_all {H : Type} {P : Program} {e : TypeId} {d : DataW H} {n : Nat} : ∀ {l : List (DataW H)}, d ∈ l → n ∈ d.weights P e → n ∈ DataW.weightsAll P e l
  | [], h, _ => by cases h
  | x :: l, h, hn => by
    rw [DataW.weightsAll, List.mem_append]
    rcases List.mem_cons.1 h with rfl | h
    · exact Or.inl hn
    · exact Or.inr (mem_all h hn)
set_option maxRecDepth 100000 in
theorem open_syms {H : Type} {enc : TypeId × Value → H} {W : World} {base : Nat} {sp : Nat → Bool} {held : Bool} {fuel : Nat} {cs : List Value} {x : DataW H × List MemPlace} (h : DataW.trod enc Tryz.prog W base sp held fuel 72 cs = some x) :
    ∃ (O : Option Addr) (cap : Nat) (zs : List Sym), cs = [.slice O zs.length cap] ∧ SymsAt W O zs ∧ ((∀ n ∈ x.1.weights Tryz.prog 72, n ≤ reachBytes) → zs.length ≤ reachBytes ∧ ∀ i, (sName zs i).size ≤ reachBytes) ∧ (∀ i, i < zs.length → (Lit.int .i8 (sKind zs i)).wf = true ∧ (Lit.int .i64 (sAt zs i)).wf = true) ∧ (O = none → cap = 0) := by
  rcases Deep.open_slice Tryz.underlying72 h with ⟨rfl, _⟩ | ⟨a, len, cap, m, n, D, Pl, rfl, _, hl, hm, hmm, hxx, hx⟩
  · exact ⟨none, 0, [], rfl, fun i hi => by simp at hi, fun _ => ⟨Nat.zero_le _, fun i => Nat.zero_le _⟩, fun i hi => by simp at hi, fun _ => rfl⟩
  · have hlm : len ≤ m := by rw [hmm]; split <;> omega
    have each : ∀ i, ∃ q : Sym, (i < len → (∃ y1 y2, D i = .agg [.lit (.string q.1.data.toList), y1, y2]) ∧ W.cell? (a.add (i * 3)) = some (.string q.1) ∧ W.cell? (a.add (i * 3 + 1)) = some (.int .i8 q.2.1) ∧ W.cell? (a.add (i * 3 + 2)) = some (.int .i64 q.2.2) ∧ (Lit.int .i8 q.2.1).wf = true ∧ (Lit.int .i64 q.2.2).wf = true) := by
      intro i
      by_cases hi : i < len
      · obtain ⟨cs', h1, h2⟩ := hx i (by omega)
        rw [show Tryz.prog.cellsOf 131 = 3 by kernel_rfl] at h1
        obtain ⟨_, hlen, hcell⟩ := World.cells?_some h1
        obtain ⟨y0, y1, y2, k, hD, _, g0, g1, g2⟩ := Deep.trod_struct3 Tryz.underlying131 h2
        match cs', hlen with
        | [v0, v1, v2], _ =>
          simp [show Tryz.prog.cellsOf 9 = 1 by kernel_rfl, show Tryz.prog.cellsOf 129 = 1 by kernel_rfl, show Tryz.prog.cellsOf 3 = 1 by kernel_rfl] at g0 g1 g2
          obtain ⟨s, e0, ey, hs⟩ := DataW.trod_string Tryz.underlying9 g0
          obtain ⟨u, e1, _, hu⟩ := DataW.trod_int Tryz.underlying129 g1
          obtain ⟨v, e2, _, hv⟩ := DataW.trod_int Tryz.underlying3 g2
          simp at e0 e1 e2
          subst e0 e1 e2
          have q0 := hcell 0 (by omega)
          have q1 := hcell 1 (by omega)
          have q2 := hcell 2 (by omega)
          rw [Deep.add_add] at q0 q1 q2
          exact ⟨(s, u, v), fun _ => ⟨⟨y1.1, y2.1, by have := congrArg Prod.fst hD; rw [ey] at this; exact this⟩, by simpa using q0, by simpa using q1, by simpa using q2, hu, hv⟩⟩
      · exact ⟨symD, fun h => absurd h hi⟩
    obtain ⟨f, hf⟩ := Classical.axiomOfChoice each
    refine ⟨some a, cap, (List.range len).map f, by simp, ?_, ?_, ?_, fun h => by cases h⟩
    · intro i hi
      have hi' : i < len := by simpa using hi
      obtain ⟨_, h0, h1, h2, _, _⟩ := hf i hi'
      refine ⟨a, rfl, ?_, ?_, ?_⟩
      · unfold sName; rw [mk_at _ _ _ _ hi']; exact h0
      · unfold sKind; rw [mk_at _ _ _ _ hi', Deep.add_add]; exact h1
      · unfold sAt; rw [mk_at _ _ _ _ hi', Deep.add_add]; exact h2
    · intro hw
      subst hxx
      have hu : DataW.weights Tryz.prog 72 (.slice ((List.range len).map D) ((List.range (m - len)).map fun j => D (len + j))) = (((List.range len).map D).length + ((List.range (m - len)).map fun j => D (len + j)).length) * Tryz.prog.bytesOf 131 :: (DataW.weightsAll Tryz.prog 131 ((List.range len).map D) ++ DataW.weightsAll Tryz.prog 131 ((List.range (m - len)).map fun j => D (len + j))) := by
        simp only [DataW.weights, Tryz.underlying72]
      simp only [hu] at hw
      constructor
      · have h := hw _ (List.mem_cons_self ..)
        rw [show Tryz.prog.bytesOf 131 = 32 by kernel_rfl] at h
        simp at h ⊢
        omega
      · intro i
        by_cases hi : i < len
        · obtain ⟨⟨y1, y2, hD⟩, _⟩ := hf i hi
          unfold sName; rw [mk_at _ _ _ _ hi]
          have hm2 : (f i).1.data.toList.length ∈ DataW.weightsAll Tryz.prog 131 ((List.range len).map D) := by
            refine mem_all (d := D i) (List.mem_map.2 ⟨i, by simpa using hi, rfl⟩) ?_
            rw [hD]
            simp only [DataW.weights, Tryz.underlying131]
            exact DataW.weights_mem_each (j := 0) (t := 9) rfl rfl _ (by simp [DataW.weights])
          have h := hw _ (List.mem_cons_of_mem _ (List.mem_append_left _ hm2))
          simpa using h
        · have : ((List.range len).map f).getD i symD = symD := by simp [List.getD, hi]
          unfold sName; rw [this]; exact Nat.zero_le _
    · intro i hi
      have hi' : i < len := by simpa using hi
      obtain ⟨_, _, _, _, h3, h4⟩ := hf i hi'
      unfold sKind sAt
      rw [mk_at _ _ _ _ hi']
      exact ⟨h3, h4⟩
theorem six {cs : Array Value} (h : cs.size = 6) : ∃ a b c d e f, cs = #[a, b, c, d, e, f] := by
  obtain ⟨l⟩ := cs
  match l, h with
  | [a, b, c, d, e, f], _ => exact ⟨a, b, c, d, e, f, rfl⟩
set_option maxRecDepth 100000 in
theorem openObj {H : Type} {enc : TypeId × Value → H} {W : World} {b0 base : Nat} {spare : Nat → Bool} {held : Bool} {v : Value} {d : DataW H} {p : List MemPlace}
    (hv : Value.okWide Tryz.prog W .any b0 75 v) (h : DataW.Trod enc Tryz.prog W base spare held 75 v d p) (hw : ∀ n ∈ d.weights Tryz.prog 75, n ≤ reachBytes) :
    ∃ (nm : ByteArray) (dA : Int) (A1 A2 A3 A4 : Option Addr) (c1 c2 c3 c4 : Nat) (code data : List Int) (ss : List Sym) (rs : List Rel),
      v = .agg #[.string nm, .slice A1 code.length c1, .int .i64 dA, .slice A2 data.length c2, .slice A3 ss.length c3, .slice A4 rs.length c4] ∧
      IntsAt W A1 .u32 code ∧ IntsAt W A2 .i64 data ∧ SymsAt W A3 ss ∧ RelsAt W A4 rs ∧ (∀ i, i < code.length → 0 ≤ nth code i ∧ nth code i < 4294967296) ∧ (∀ i, (sName ss i).size ≤ 140737488355328) ∧ ss.length ≤ 140737488355328 ∧ nm.size ≤ maxLen ∧ (-9223372036854775808 ≤ dA ∧ dA ≤ 9223372036854775807) ∧ (A1 = none → c1 = 0) ∧ (A2 = none → c2 = 0) ∧ (A3 = none → c3 = 0) ∧ (A4 = none → c4 = 0) ∧ (∀ i, i < data.length → -9223372036854775808 ≤ nth data i ∧ nth data i < 9223372036854775808) := by
  obtain ⟨cs, rfl, hsz⟩ := okWide_struct Tryz.underlying75 hv
  obtain ⟨v0, v1, v2, v3, v4, v5, rfl⟩ := six (hsz.trans (by kernel_rfl))
  obtain ⟨fuel, hf⟩ := h
  obtain ⟨xs, n, _, hdd, _, hlen, hf⟩ := DataW.trod_struct Tryz.underlying75 hf
  match xs, hlen with
  | [y0, y1, y2, y3, y4, y5], _ =>
    have h0 := hf 0 _ rfl
    have h1 := hf 1 _ rfl
    have h2 := hf 2 _ rfl
    have h3 := hf 3 _ rfl
    have h4 := hf 4 _ rfl
    have h5 := hf 5 _ rfl
    simp [Value.cells, show Tryz.prog.cellsOf 9 = 1 by kernel_rfl, show Tryz.prog.cellsOf 26 = 1 by kernel_rfl, show Tryz.prog.cellsOf 3 = 1 by kernel_rfl, show Tryz.prog.cellsOf 27 = 1 by kernel_rfl, show Tryz.prog.cellsOf 72 = 1 by kernel_rfl, show Tryz.prog.cellsOf 73 = 1 by kernel_rfl] at h0 h1 h2 h3 h4 h5
    obtain ⟨nm, e0, _, hnm⟩ := DataW.trod_string Tryz.underlying9 h0
    obtain ⟨A1, c1, code, e1, k1, _, r1, u1⟩ := open_i Tryz.underlying26 Tryz.underlying78 (by kernel_rfl) h1
    obtain ⟨dA, e2, _, w2⟩ := DataW.trod_int Tryz.underlying3 h2
    obtain ⟨A2, c2, data, e3, k3, _, r3, u2⟩ := open_i Tryz.underlying27 Tryz.underlying2 (by kernel_rfl) h3
    obtain ⟨A3, c3, ss, e4, k4, n4, _, u3⟩ := open_syms h4
    obtain ⟨A4, c4, rs, e5, k5, _, u4⟩ := open_rels h5
    have hw4 : ∀ n ∈ y4.1.weights Tryz.prog 72, n ≤ reachBytes := fun n hn => by
      refine hw n ?_
      have hd : d = .agg [y0.1, y1.1, y2.1, y3.1, y4.1, y5.1] := congrArg Prod.fst hdd
      rw [hd]
      simp only [DataW.weights, Tryz.underlying75]
      exact DataW.weights_mem_each (j := 4) (t := 72) rfl rfl n hn
    simp at e0 e1 e2 e3 e4 e5
    subst e0 e1 e2 e3 e4 e5
    refine ⟨nm, dA, A1, A2, A3, A4, c1, c2, c3, c4, code, data, ss, rs, rfl, k1, k3, k4, k5, fun i hi => ?_, ?_, ?_, hnm, ?_, u1, u2, u3, u4, fun i hi => ?_⟩
    · have := r1 i hi
      simp [Lit.wf, IntKind.min, IntKind.max, IntKind.signed, IntKind.bits] at this
      omega
    · intro i
      have := (n4 hw4).2 i
      simp [reachBytes] at this; omega
    · have := (n4 hw4).1
      simp [reachBytes] at this; omega
    · simp [Lit.wf, IntKind.min, IntKind.max, IntKind.signed, IntKind.bits] at w2
      omega
    · have := r3 i hi
      simp [Lit.wf, IntKind.min, IntKind.max, IntKind.signed, IntKind.bits] at this
      omega







end Go.Proofs.YthpkekpojhmaaaaGreatDoor

namespace Go.Proofs.YthpkekpojhmaaaaGreatDoor
open Go.RowKit

/-- No list or text of an object is longer than any can be. -/
structure LightO (o : Ob) : Prop where
  n : o.nm.size ≤ 140737488355328
  c : o.code.length ≤ 140737488355328
  d : o.data.length ≤ 140737488355328
  s : o.ss.length ≤ 140737488355328
  r : o.rs.length ≤ 140737488355328
  e : ∀ i, (sName o.ss i).size ≤ 140737488355328
/-- An object's weight but for its names' ones. -/
def wtO (o : Ob) : Nat := o.nm.size + 4 * o.code.length + 8 * o.data.length + o.rs.length + o.ss.length
/-- How SizeObjects ends. -/
def SzP (l : List Ob) (w : World) (e : Ending) (w' : World) : Prop := ∃ n : Nat, e = .returned (.int .i64 n) ∧ n ≤ 2111064472813567 ∧ (n ≤ 2147483647 → ∀ i, i < l.length → wtO (ob l i) ≤ n) ∧ Below w.heap.size w w'
theorem lt_step {l : List Ob} {k n m : Nat} (h : ∀ i, i < k → wtO (ob l i) ≤ n) (hm : n ≤ m) (hk : wtO (ob l k) ≤ m) : ∀ i, i < k + 1 → wtO (ob l i) ≤ m := fun i hi => by
  by_cases e : i = k
  · subst e; exact hk
  · exact Nat.le_trans (h i (by omega)) hm
set_option maxHeartbeats 4000000 in
set_option maxRecDepth 100000 in
theorem sizeobs_any (A : Option Addr) (ca : Nat) (q : Nat → Pl) (l : List Ob) (w : World) (hA : ObsAt w A q l) (hS : ∀ i, i < l.length → SymsAt w (q i).A3 (ob l i).ss) (hL : ∀ i, i < l.length → LightO (ob l i)) (hl : l.length ≤ 64) :
    Calls Tryz.prog 31 #[.slice A l.length ca] w (SzP l w) := by
  have HA : Hid (ObsAt w A q l) := hA
  have HS : Hid (∀ i, i < l.length → SymsAt w (q i).A3 (ob l i).ss) := hS
  have HL : Hid (∀ i, i < l.length → LightO (ob l i)) := hL
  clear hA hS hL
  go_enter Tryz.func31, Tryz.ntmps31
  go_wp2
  go_loopw [4, 3] (fun i t wr => ∃ (k n : Nat), i = .int .i64 k ∧ t = .int .i64 n ∧ k ≤ l.length ∧ n ≤ 2111064472813567 ∧ Hid (∀ i, i < k → wtO (ob l i) ≤ n) ∧ Hid (Below w.heap.size w wr)) (fun i _ _ => l.length - (intOf i).toNat)
  case atStart => exact ⟨0, l.length, rfl, rfl, Nat.zero_le _, by omega, fun i hi => absurd hi (Nat.not_lt_zero _), Below.refl _ _⟩
  case round =>
    obtain ⟨k, n, rfl, rfl, hk, hn, HW, HB⟩ := hrel
    by_cases hlt : k < l.length
    · by_cases hbig : n ≤ 2147483647
      · have hlt' : (k : Int) < (l.length : Int) := by omega
        have hbig' : (n : Int) ≤ 2147483647 := by omega
        obtain ⟨a, ea, x0, x1, x2, x3, x4, x5⟩ := HA.out.six HB.out k hlt
        have hLk := HL.out k hlt
        have h1 := hLk.n
        have h2 := hLk.c
        have h3 := hLk.d
        have h4 := hLk.s
        have h5 := hLk.r
        have HLe : Hid _ := hLk.e
        have HSk : Hid _ := HS.out k hlt
        clear hLk
        subst ea
        go_wp2
        go_quiet (fail)
        have HB0 : Hid (Below w.heap.size w (wr.drewN nq)) := below_drewN HB.out _
        obtain ⟨m0, hm0⟩ : ∃ m : Nat, m = n + (ob l k).nm.size + 4 * (ob l k).code.length + 8 * (ob l k).data.length + (ob l k).rs.length + (ob l k).ss.length := ⟨_, rfl⟩
        have hm1 : (n : Int) + ((ob l k).nm.size : Int) + 4 * ((ob l k).code.length : Int) + 8 * ((ob l k).data.length : Int) + ((ob l k).rs.length : Int) + ((ob l k).ss.length : Int) = (m0 : Int) := by omega
        have hm2 : m0 ≤ 2111064472813567 := by omega
        have HM3 : Hid (n ≤ m0) := by unfold Hid; omega
        have HM4 : Hid (wtO (ob l k) ≤ m0) := by unfold Hid wtO; omega
        rw [hm1]
        clear hm0 hm1 x0 x1 x2 x3 x4 x5 h1 h2 h3 h5
        generalize wr.drewN nq = wz at HB0 ⊢
        go_wp2
        go_loopw [5, 3] (fun i t wr => ∃ (j m : Nat), i = .int .i64 j ∧ t = .int .i64 m ∧ j ≤ (ob l k).ss.length ∧ m0 ≤ m ∧ m ≤ 2111064472813567 ∧ Hid (Below w.heap.size w wr)) (fun i _ _ => (ob l k).ss.length - (intOf i).toNat)
        case atStart => exact ⟨0, m0, rfl, rfl, Nat.zero_le _, Nat.le_refl _, hm2, HB0⟩
        case round =>
          clear HB0
          obtain ⟨j, m, rfl, rfl, hj, hm3, hm4, HB1⟩ := hrel
          obtain ⟨b, eb, x0, x1, x2, x3, x4, x5⟩ := HA.out.six HB1.out k hlt
          obtain rfl := Option.some.inj eb
          clear eb x0 x1 x2 x3 x5
          by_cases hjl : j < (ob l k).ss.length
          · have hjl' : (j : Int) < ((ob l k).ss.length : Int) := by omega
            by_cases hmb : m ≤ 2147483647
            · have hmb' : (m : Int) ≤ 2147483647 := by omega
              obtain ⟨a3, e3, s0, s1, s2⟩ := HSk.out j hjl
              have t0 := lkeep HB1.out s0
              have hsz := HLe.out j
              rw [e3] at x4
              clear s0 s1 s2 e3
              go_wp2
              go_roundw
              case rel => exact ⟨j + 1, m + (sName (ob l k).ss j).size, by go_num, by go_num, by omega, by omega, by omega, HB1⟩
              case measure => simp [intOf]; omega
            · have hmb' : ¬ (m : Int) ≤ 2147483647 := by omega
              go_wp2
              go_roundw
              case rel => exact ⟨k + 1, m, by go_num, rfl, by omega, hm4, lt_step HW.out (Nat.le_trans HM3.out hm3) (Nat.le_trans HM4.out hm3), HB1⟩
              case measure => simp [intOf]; omega
          · have hjl' : ¬ (j : Int) < ((ob l k).ss.length : Int) := by omega
            go_wp2
            go_roundw
            case rel => exact ⟨k + 1, m, by go_num, rfl, by omega, hm4, lt_step HW.out (Nat.le_trans HM3.out hm3) (Nat.le_trans HM4.out hm3), HB1⟩
            case measure => simp [intOf]; omega
      · have hlt' : (k : Int) < (l.length : Int) := by omega
        have hbig' : ¬ (n : Int) ≤ 2147483647 := by omega
        go_wp2
        go_ret
        exact ⟨n, rfl, hn, fun h => absurd h hbig, HB.out⟩
    · have hlt' : ¬ (k : Int) < (l.length : Int) := by omega
      go_wp2
      go_ret
      exact ⟨n, rfl, hn, fun _ i hi => HW.out i (by omega), HB.out⟩
/-- How heavy ends. -/
def HvL (l : List Ob) (w : World) (e : Ending) (w' : World) : Prop := ∃ B : Bool, e = .returned (.bool B) ∧ (B = false → l.length ≤ 64 ∧ ∀ i, i < l.length → wtO (ob l i) ≤ 524288) ∧ Below w.heap.size w w'
theorem long_any (n : Int) (w : World) : Calls Tryz.prog 30 #[.int .i64 n] w fun e w' => e = .returned (.bool (decide (2147483647 < n))) ∧ w' = w := by
  go_enter Tryz.func30, Tryz.ntmps30
  go_wp2
  go_ret
  exact ⟨rfl, rfl⟩
set_option maxHeartbeats 4000000 in
set_option maxRecDepth 100000 in
theorem heavy_any (A : Option Addr) (ca : Nat) (q : Nat → Pl) (l : List Ob) (w : World) (hA : ObsAt w A q l) (hS : ∀ i, i < l.length → SymsAt w (q i).A3 (ob l i).ss) (hL : ∀ i, i < l.length → LightO (ob l i)) :
    Calls Tryz.prog 5 #[.slice A l.length ca] w (HvL l w) := by
  by_cases hl : 64 < l.length
  · have hl' : (64 : Int) < (l.length : Int) := by omega
    clear hA hS hL
    go_enter Tryz.func5, Tryz.ntmps5
    go_wp2
    go_ret
    exact ⟨true, rfl, fun h => (by cases h), Below.refl _ _⟩
  · have hl' : ¬ (64 : Int) < (l.length : Int) := by omega
    have hl4 : l.length ≤ 64 := by omega
    have CZ : Hid (∀ wx, Below w.heap.size w wx → Calls Tryz.prog 31 #[.slice A l.length ca] wx (SzP l wx)) := fun wx hx => sizeobs_any A ca q l wx (hA.keep hx) (fun i hi => (hS i hi).keep hx) hL hl4
    clear hA hS hL hl
    go_enter Tryz.func5, Tryz.ntmps5
    go_wp2_with fail
    refine (CZ.out _ (Below.refl _ _)).mono ?_
    rintro e w1 ⟨n, rfl, hn, -, hb1⟩
    have HB1 : Hid (Below w.heap.size w w1) := hb1
    clear hb1
    go_wp2_with fail
    refine (long_any _ _).mono ?_
    rintro e w2 ⟨rfl, rfl⟩
    by_cases hlo : 2147483647 < n
    · have hlo' : (2147483647 : Int) < (n : Int) := by omega
      go_wp2
      go_ret
      exact ⟨true, rfl, fun h => (by cases h), HB1.out⟩
    · have hlo' : ¬ (2147483647 : Int) < (n : Int) := by omega
      go_wp2_with fail
      refine (CZ.out _ HB1.out).mono ?_
      rintro e w3 ⟨m, rfl, hm, hwt, hb3⟩
      have HB3 : Hid (Below w.heap.size w w3) := lb_trans HB1.out hb3
      have HWt : Hid (m ≤ 2147483647 → ∀ i, i < l.length → wtO (ob l i) ≤ m) := hwt
      clear hwt hb3
      go_wp2
      go_ret
      refine ⟨_, rfl, fun h => ⟨hl4, fun i hi => ?_⟩, HB3.out⟩
      have h1 : (n : Int) ≤ 2147483647 ∧ (m : Int) ≤ 524288 := by simpa using h
      have h2 := h1.2
      exact Nat.le_trans (HWt.out (by omega) i hi) (by omega)





end Go.Proofs.YthpkekpojhmaaaaGreatDoor

namespace Go.Proofs.YthpkekpojhmaaaaGreatDoor
open Go.ChangeShapes Go.WideShapes Go.ChangeAt Go.RowKit Go.Joins

/-- What is sure of an object that was handed in. -/
structure OpenO (w : World) (p : Pl) (o : Ob) : Prop where
  cd : IntsAt w p.A1 .u32 o.code
  dt : IntsAt w p.A2 .i64 o.data
  sy : SymsAt w p.A3 o.ss
  rl : RelsAt w p.A4 o.rs
  cr : ∀ i, i < o.code.length → 0 ≤ nth o.code i ∧ nth o.code i < 4294967296
  dr : ∀ i, i < o.data.length → In64 (nth o.data i)
  da : In64 o.dA
  light : LightO o
  r4 : o.rs.length ≤ p.c4
  none : NoneO p
theorem OpenO.inn {w : World} {p : Pl} {o : Ob} (h : OpenO w p o) (hw : wtO o ≤ 524288) : ObIn w p o := by
  unfold wtO at hw
  exact ⟨h.cd, h.dt, h.sy, h.rl, h.cr, h.dr, h.da, by omega, by omega, by omega, by omega, h.light.e, h.r4⟩
theorem weights_str {H : Type} (P : Program) (t : TypeId) (s : List UInt8) : s.length ∈ (DataW.lit (.string s) : DataW H).weights P t := by simp [DataW.weights]
theorem open_len {H : Type} {enc : TypeId × Value → H} {W : World} {base : Nat} {sp : Nat → Bool} {held : Bool} {fuel : Nat} {O : Option Addr} {n cap b : Nat} {x : DataW H × List MemPlace} {t e : TypeId} (ht : Tryz.prog.underlying t = some (.slice e)) (hb : Tryz.prog.bytesOf e = b) (h1 : 1 ≤ b)
    (h : DataW.trod enc Tryz.prog W base sp held fuel t [.slice O n cap] = some x) (hw : ∀ n ∈ x.1.weights Tryz.prog t, n ≤ reachBytes) : n ≤ 140737488355328 ∧ n ≤ cap := by
  rcases Deep.open_slice ht h with ⟨e0, _⟩ | ⟨a, len, cap', m, n', D, Pl, e0, _, hl, hm, hmm, hxx, hx⟩
  · cases e0
    exact ⟨Nat.zero_le _, Nat.le_refl _⟩
  · cases e0
    subst hxx
    have hu : DataW.weights Tryz.prog t (.slice ((List.range n).map D) ((List.range (m - n)).map fun j => D (n + j))) = (((List.range n).map D).length + ((List.range (m - n)).map fun j => D (n + j)).length) * Tryz.prog.bytesOf e :: (DataW.weightsAll Tryz.prog e ((List.range n).map D) ++ DataW.weightsAll Tryz.prog e ((List.range (m - n)).map fun j => D (n + j))) := by
      simp only [DataW.weights, ht]
    simp only [hu] at hw
    have h2 := hw _ (List.mem_cons_self ..)
    rw [hb] at h2
    simp only [List.length_map, List.length_range] at h2
    have h3 : (n + (m - n)) * 1 ≤ (n + (m - n)) * b := Nat.mul_le_mul_left _ h1
    have h4 : reachBytes ≤ 140737488355328 := by decide
    exact ⟨by omega, hl⟩
set_option maxRecDepth 100000 in
theorem open_ob {H : Type} {enc : TypeId × Value → H} {W : World} {base : Nat} {sp : Nat → Bool} {held : Bool} {fuel : Nat} {v0 v1 v2 v3 v4 v5 : Value} {x : DataW H × List MemPlace} (h : DataW.trod enc Tryz.prog W base sp held fuel 75 [v0, v1, v2, v3, v4, v5] = some x) (hw : ∀ n ∈ x.1.weights Tryz.prog 75, n ≤ reachBytes) :
    ∃ (o : Ob) (p : Pl), (v0 = .string o.nm ∧ v1 = .slice p.A1 o.code.length p.c1 ∧ v2 = .int .i64 o.dA ∧ v3 = .slice p.A2 o.data.length p.c2 ∧ v4 = .slice p.A3 o.ss.length p.c3 ∧ v5 = .slice p.A4 o.rs.length p.c4) ∧ OpenO W p o := by
  obtain ⟨xs, n, _, hdd, _, hlen, hf⟩ := DataW.trod_struct Tryz.underlying75 h
  match xs, hlen with
  | [y0, y1, y2, y3, y4, y5], _ =>
    have h0 := hf 0 _ rfl
    have h1 := hf 1 _ rfl
    have h2 := hf 2 _ rfl
    have h3 := hf 3 _ rfl
    have h4 := hf 4 _ rfl
    have h5 := hf 5 _ rfl
    simp [show Tryz.prog.cellsOf 9 = 1 by kernel_rfl, show Tryz.prog.cellsOf 26 = 1 by kernel_rfl, show Tryz.prog.cellsOf 3 = 1 by kernel_rfl, show Tryz.prog.cellsOf 27 = 1 by kernel_rfl, show Tryz.prog.cellsOf 72 = 1 by kernel_rfl, show Tryz.prog.cellsOf 73 = 1 by kernel_rfl] at h0 h1 h2 h3 h4 h5
    obtain ⟨nm, e0, ey, _⟩ := DataW.trod_string Tryz.underlying9 h0
    obtain ⟨A1, c1, code, e1, k1, _, r1, u1⟩ := open_i Tryz.underlying26 Tryz.underlying78 (by kernel_rfl) h1
    obtain ⟨dA, e2, _, w2⟩ := DataW.trod_int Tryz.underlying3 h2
    obtain ⟨A2, c2, data, e3, k3, _, r3, u2⟩ := open_i Tryz.underlying27 Tryz.underlying2 (by kernel_rfl) h3
    obtain ⟨A3, c3, ss, e4, k4, n4, _, u3⟩ := open_syms h4
    obtain ⟨A4, c4, rs, e5, k5, _, u4⟩ := open_rels h5
    have hd : x.1 = .agg [y0.1, y1.1, y2.1, y3.1, y4.1, y5.1] := congrArg Prod.fst hdd
    rw [hd] at hw
    simp only [DataW.weights, Tryz.underlying75] at hw
    have g0 : ∀ n ∈ y0.1.weights Tryz.prog 9, n ≤ reachBytes := fun n hn => hw n (DataW.weights_mem_each (j := 0) (t := 9) rfl rfl n hn)
    have g1 : ∀ n ∈ y1.1.weights Tryz.prog 26, n ≤ reachBytes := fun n hn => hw n (DataW.weights_mem_each (j := 1) (t := 26) rfl rfl n hn)
    have g3 : ∀ n ∈ y3.1.weights Tryz.prog 27, n ≤ reachBytes := fun n hn => hw n (DataW.weights_mem_each (j := 3) (t := 27) rfl rfl n hn)
    have g4 : ∀ n ∈ y4.1.weights Tryz.prog 72, n ≤ reachBytes := fun n hn => hw n (DataW.weights_mem_each (j := 4) (t := 72) rfl rfl n hn)
    have g5 : ∀ n ∈ y5.1.weights Tryz.prog 73, n ≤ reachBytes := fun n hn => hw n (DataW.weights_mem_each (j := 5) (t := 73) rfl rfl n hn)
    simp at e0 e1 e2 e3 e4 e5
    subst e0 e1 e2 e3 e4 e5
    have l1 := open_len Tryz.underlying26 (b := 4) (by kernel_rfl) (by omega) h1 g1
    have l3 := open_len Tryz.underlying27 (b := 8) (by kernel_rfl) (by omega) h3 g3
    have l4 := open_len Tryz.underlying72 (b := 32) (by kernel_rfl) (by omega) h4 g4
    have l5 := open_len Tryz.underlying73 (b := 16) (by kernel_rfl) (by omega) h5 g5
    have hR : reachBytes ≤ 140737488355328 := by decide
    have l0 : nm.size ≤ 140737488355328 := by
      have h7 := g0 nm.data.toList.length (by rw [ey]; exact weights_str _ _ _)
      have h8 : nm.data.toList.length = nm.size := rfl
      omega
    refine ⟨⟨nm, code, dA, data, ss, rs⟩, ⟨A1, A2, A3, A4, c1, c2, c3, c4⟩, ⟨rfl, rfl, rfl, rfl, rfl, rfl⟩, ⟨k1, k3, k4, k5, fun i hi => ?_, fun i hi => ?_, ?_, ⟨l0, l1.1, l3.1, l4.1, l5.1, fun i => Nat.le_trans ((n4 g4).2 i) hR⟩, l5.2, ⟨u1, u2, u3, u4⟩⟩⟩
    · have := r1 i hi
      show 0 ≤ nth code i ∧ nth code i < 4294967296
      simp [Lit.wf, IntKind.min, IntKind.max, IntKind.signed, IntKind.bits] at this
      omega
    · have := r3 i hi
      show In64 (nth data i)
      simp [Lit.wf, IntKind.min, IntKind.max, IntKind.signed, IntKind.bits] at this
      unfold In64
      omega
    · simp [Lit.wf, IntKind.min, IntKind.max, IntKind.signed, IntKind.bits] at w2
      show In64 dA
      unfold In64
      omega
theorem six_list {α : Type} : ∀ {l : List α}, l.length = 6 → ∃ a b c d e f, l = [a, b, c, d, e, f]
  | [a, b, c, d, e, f], _ => ⟨a, b, c, d, e, f, rfl⟩
set_option maxRecDepth 100000 in
theorem openObs {H : Type} {enc : TypeId × Value → H} {W : World} {b0 base : Nat} {spare : Nat → Bool} {held : Bool} {v : Value} {d : DataW H} {p : List MemPlace}
    (hv : Value.okWide Tryz.prog W .any b0 22 v) (h : DataW.Trod enc Tryz.prog W base spare held 22 v d p) (hw : ∀ n ∈ d.weights Tryz.prog 22, n ≤ reachBytes) :
    ∃ (A : Option Addr) (cap : Nat) (q : Nat → Pl) (l : List Ob), v = .slice A l.length cap ∧ ObsAt W A q l ∧ ∀ i, i < l.length → OpenO W (q i) (ob l i) := by
  obtain ⟨a0, len0, c0, rfl⟩ := okWide_slice Tryz.underlying22 hv
  obtain ⟨fuel, hf⟩ := h
  rcases Deep.open_slice Tryz.underlying22 hf with ⟨e0, _⟩ | ⟨a, len, cap, m, n, D, Pl, e0, _, hl, hm, hmm, hxx, hx⟩
  · have e1 : (Value.slice a0 len0 c0) = .slice none 0 0 := by simpa [Value.cells] using e0
    exact ⟨none, 0, fun _ => plD, [], e1, fun i hi => by simp at hi, fun i hi => by simp at hi⟩
  · have e1 : (Value.slice a0 len0 c0) = .slice (some a) len cap := by simpa [Value.cells] using e0
    have hlm : len ≤ m := by rw [hmm]; split <;> omega
    have hd : d = .slice ((List.range len).map D) ((List.range (m - len)).map fun j => D (len + j)) := congrArg Prod.fst hxx
    subst hd
    have hu : DataW.weights Tryz.prog 22 (.slice ((List.range len).map D) ((List.range (m - len)).map fun j => D (len + j))) = (((List.range len).map D).length + ((List.range (m - len)).map fun j => D (len + j)).length) * Tryz.prog.bytesOf 75 :: (DataW.weightsAll Tryz.prog 75 ((List.range len).map D) ++ DataW.weightsAll Tryz.prog 75 ((List.range (m - len)).map fun j => D (len + j))) := by
      simp only [DataW.weights, Tryz.underlying22]
    simp only [hu] at hw
    have each : ∀ i, ∃ op : Ob × Go.Proofs.YthpkekpojhmaaaaGreatDoor.Pl, i < len → (W.cell? (a.add (i * 6)) = some (.string op.1.nm) ∧ W.cell? ((a.add (i * 6)).add 1) = some (.slice op.2.A1 op.1.code.length op.2.c1) ∧ W.cell? ((a.add (i * 6)).add 2) = some (.int .i64 op.1.dA) ∧ W.cell? ((a.add (i * 6)).add 3) = some (.slice op.2.A2 op.1.data.length op.2.c2) ∧ W.cell? ((a.add (i * 6)).add 4) = some (.slice op.2.A3 op.1.ss.length op.2.c3) ∧ W.cell? ((a.add (i * 6)).add 5) = some (.slice op.2.A4 op.1.rs.length op.2.c4)) ∧ OpenO W op.2 op.1 := by
      intro i
      by_cases hi : i < len
      · obtain ⟨cs', h1, h2⟩ := hx i (by omega)
        rw [show Tryz.prog.cellsOf 75 = 6 by kernel_rfl] at h1
        obtain ⟨_, hlen, hcell⟩ := World.cells?_some h1
        obtain ⟨v0, v1, v2, v3, v4, v5, rfl⟩ := six_list hlen
        have q0 := hcell 0 (by omega)
        have q1 := hcell 1 (by omega)
        have q2 := hcell 2 (by omega)
        have q3 := hcell 3 (by omega)
        have q4 := hcell 4 (by omega)
        have q5 := hcell 5 (by omega)
        obtain ⟨o, p, ⟨e0, e1, e2, e3, e4, e5⟩, hO⟩ := open_ob h2 (fun n hn => hw n (List.mem_cons_of_mem _ (List.mem_append_left _ (mem_all (d := D i) (List.mem_map.2 ⟨i, by simpa using hi, rfl⟩) hn))))
        subst e0 e1 e2 e3 e4 e5
        exact ⟨(o, p), fun _ => ⟨⟨by rw [Deep.add_add] at q0; simpa using q0, by simpa using q1, by simpa using q2, by simpa using q3, by simpa using q4, by simpa using q5⟩, hO⟩⟩
      · exact ⟨(obD, plD), fun h => absurd h hi⟩
    obtain ⟨f, hf⟩ := Classical.axiomOfChoice each
    have hob : ∀ i, i < len → ob ((List.range len).map fun i => (f i).1) i = (f i).1 := fun i hi => mk_at _ _ _ _ hi
    refine ⟨some a, cap, fun i => (f i).2, (List.range len).map fun i => (f i).1, by rw [e1]; simp, fun i hi => ?_, fun i hi => ?_⟩
    · have hi' : i < len := by simpa using hi
      rw [hob i hi']
      exact ⟨a, rfl, (hf i hi').1⟩
    · have hi' : i < len := by simpa using hi
      rw [hob i hi']
      exact (hf i hi').2




end Go.Proofs.YthpkekpojhmaaaaGreatDoor

namespace Go.Proofs.YthpkekpojhmaaaaGreatDoor
open Go.RowKit

attribute [local go_sem] Oper.semAt_some

theorem layout_any (A : Option Addr) (n ca : Nat) (w : World) : Calls Tryz.prog 92 #[.slice A n ca] w fun e w' => e = .returned (.func (.func 142) #[] #[.pointer (some ⟨w.heap.size, 0, none⟩)]) ∧ w' = w.alloc (.cells #[.slice A n ca] 22) := by
  go_enter Tryz.func92, Tryz.ntmps92
  go_wp2
  go_ret
  exact ⟨rfl, rfl⟩
/-- What a range's own doing may turn: blocks of objects and whatever is no cells, from n on. -/
structure Turn (n : Nat) (W W' : World) : Prop where
  os : W'.os = W.os
  tape : W'.tape = W.tape
  output : W'.output = W.output
  size : W.heap.size ≤ W'.heap.size
  low : ∀ b, b < n → W'.heap[b]? = W.heap[b]?
  cells : ∀ (b : Nat) (cs : Array Value) (t : TypeId) (m : Nat × Nat), W.heap[b]? = some (.cells cs t m) → t ≠ 75 → W'.heap[b]? = W.heap[b]?
theorem Turn.trans {n : Nat} {A B C : World} (h : Turn n A B) (k : Turn n B C) : Turn n A C :=
  ⟨k.os.trans h.os, k.tape.trans h.tape, k.output.trans h.output, Nat.le_trans h.size k.size, fun b hb => (k.low b hb).trans (h.low b hb), fun b cs t m e ht => (k.cells b cs t m ((h.cells b cs t m e ht).trans e) ht).trans (h.cells b cs t m e ht)⟩
theorem Turn.alloc {n : Nat} (W : World) (o : Obj) (hn : n ≤ W.heap.size) : Turn n W (W.alloc o) :=
  ⟨rfl, rfl, rfl, by simp, fun b hb => Below.heap_alloc W o b (by omega), fun b _ _ _ e _ => Below.heap_alloc W o b (Array.getElem?_eq_some_iff.1 e).1⟩
theorem Turn.put {n l : Nat} {W : World} {o o' : Obj} (h : W.heap[l]? = some o) (ho : o.isCells = false) (hn : n ≤ l) : Turn n W (W.putObj l o') :=
  ⟨rfl, rfl, rfl, by simp, fun b hb => World.putObj_heap_other (by omega), fun b cs t m e _ => World.putObj_heap_other (fun e2 => by rw [e2, h] at e; cases e; cases ho)⟩
theorem Turn.set {n B i : Nat} {W : World} {v : Value} {cs : Array Value} {m : Nat × Nat} (h : W.heap[B]? = some (.cells cs 75 m)) (hn : n ≤ B) : Turn n W (W.setCell ⟨B, i, none⟩ v) :=
  ⟨rfl, rfl, rfl, by simp [World.setCell], fun b hb => Below.heap_setCell _ _ _ _ (Nat.ne_of_lt (Nat.lt_of_lt_of_le hb hn)), fun b _ t _ e ht => Below.heap_setCell _ _ _ _ (fun e2 => by rw [e2, h] at e; cases e; exact ht rfl)⟩
/-- What a round must keep: what lay below n0; from n1 on blocks of objects and whatever is no cells. -/
structure Kept (n0 n1 : Nat) (W W' : World) : Prop where
  low : Below n0 W W'
  other : ∀ (b : Nat) (o : Obj), W.heap[b]? = some o → n1 ≤ b → o.isCells = false → W'.heap[b]? = some o
  objs : ∀ (b : Nat) (cs : Array Value) (m : Nat × Nat), W.heap[b]? = some (.cells cs 75 m) → n1 ≤ b → W'.heap[b]? = some (.cells cs 75 m)
theorem Kept.trans {n0 n1 : Nat} {A B C : World} (h : Kept n0 n1 A B) (k : Kept n0 n1 B C) : Kept n0 n1 A C :=
  ⟨h.low.trans k.low, fun b o e hb ho => k.other b o (h.other b o e hb ho) hb ho, fun b cs m e hb => k.objs b cs m (h.objs b cs m e hb) hb⟩
theorem Kept.refl (n0 n1 : Nat) (W : World) : Kept n0 n1 W W := ⟨Below.refl _ _, fun _ _ h _ _ => h, fun _ _ _ h _ => h⟩
theorem Kept.of {n0 n1 : Nat} {W W' : World} (h : Below W.heap.size W W') (hn : n0 ≤ W.heap.size) : Kept n0 n1 W W' :=
  ⟨h.mono hn, fun b _o e _ _ => (h.block b (Array.getElem?_eq_some_iff.1 e).1).trans e, fun b _ _ e _ => (h.block b (Array.getElem?_eq_some_iff.1 e).1).trans e⟩
/-- A change of one block of cells of another type. -/
theorem Kept.grown {n0 n1 g : Nat} {W W' : World} {cs : Array Value} {t : TypeId} {m : Nat × Nat} (h : W.grownBy W' (some g)) (hg : W.heap[g]? = some (.cells cs t m)) (ht : t ≠ 75) (hn : n0 ≤ g) : Kept n0 n1 W W' := by
  have hlt := (Array.getElem?_eq_some_iff.1 hg).1
  refine ⟨⟨h.os, h.tape, h.output, h.size, fun k hk => h.block k (by omega) (fun e => by cases e; omega)⟩, fun b o e _ ho => ?_, fun b c2 m2 e _ => ?_⟩
  · exact (h.block b (Array.getElem?_eq_some_iff.1 e).1 (fun e2 => by cases e2; rw [hg] at e; cases e; cases ho)).trans e
  · exact (h.block b (Array.getElem?_eq_some_iff.1 e).1 (fun e2 => by cases e2; rw [hg] at e; cases e; exact ht rfl)).trans e
theorem Kept.grown0 {n0 n1 : Nat} {W W' : World} (h : W.grownBy W' none) (hn : n0 ≤ W.heap.size) : Kept n0 n1 W W' :=
  Kept.of ⟨h.os, h.tape, h.output, h.size, fun k hk => h.block k hk (by simp)⟩ hn
/-- What the iterator itself asks. -/
structure KeptO (n0 n1 : Nat) (W W' : World) : Prop where
  low : Below n0 W W'
  objs : ∀ (b : Nat) (cs : Array Value) (m : Nat × Nat), W.heap[b]? = some (.cells cs 75 m) → n1 ≤ b → W'.heap[b]? = some (.cells cs 75 m)
theorem KeptO.trans {n0 n1 : Nat} {A B C : World} (h : KeptO n0 n1 A B) (k : KeptO n0 n1 B C) : KeptO n0 n1 A C := ⟨h.low.trans k.low, fun b cs m e hb => k.objs b cs m (h.objs b cs m e hb) hb⟩
theorem Kept.o {n0 n1 : Nat} {W W' : World} (h : Kept n0 n1 W W') : KeptO n0 n1 W W' := ⟨h.low, h.objs⟩
theorem KeptO.put {n0 n1 l : Nat} {W : World} {o o' : Obj} (h : W.heap[l]? = some o) (ho : o.isCells = false) (hn : n0 ≤ l) : KeptO n0 n1 W (W.putObj l o') :=
  ⟨⟨rfl, rfl, rfl, by simp, fun b hb => World.putObj_heap_other (by omega)⟩, fun b cs m e _ => (World.putObj_heap_other (fun e2 => by rw [e2, h] at e; cases e; cases ho)).trans e⟩
theorem sum_fits {l : List Ob} {i : Nat} (h : ∀ j, j < l.length → (ob l j).code.length ≤ 1048576) (hl : l.length ≤ 64) (hi : i ≤ l.length) : bsF l i ≤ 67108928 := by
  have := bsF_some (l := l) (i := i) (fun j hj => h j (by omega))
  omega
set_option maxRecDepth 100000 in
set_option maxHeartbeats 8000000 in
/-- The iterator: each object's number and base, in order. -/
theorem layout1_any (n : Nat) (hn : 1 ≤ n) (l0 Bs n0 n1 : Nat) (A : Option Addr) (ca : Nat) (q : Nat → Pl) (l : List Ob) (w0 : World) (J Jx : Nat → World → Prop)
    (hJ : ∀ k W W', J k W → Below W.heap.size W W' → J k W') (hO : ∀ W, Below n0 w0 W → ObsIn W A q l) (hJb : ∀ k W, J k W → Below n0 w0 W ∧ n1 ≤ W.heap.size)
    (hY : ∀ k W, k < l.length → J k W → YieldAt Fence.wide (n - 1) Tryz.prog l0 #[.int .i64 (k : Int), .int .i64 (bsF l k : Int)] W fun e W' => (e = .returned (.bool true) ∧ J (k + 1) W' ∧ KeptO n0 n1 W W') ∨ (e = .returned (.bool false) ∧ Jx k W'))
    (W : World) (hBs : W.cell? ⟨Bs, 0, none⟩ = some (.slice A l.length ca)) (h0 : J 0 W) :
    CallsIn Fence.wide n Tryz.prog 142 #[.func (.yield l0) #[] #[], .pointer (some ⟨Bs, 0, none⟩)] W fun e W' => (∃ v, e = .returned v) ∧ (J l.length W' ∨ ∃ k, k < l.length ∧ Jx k W') := by
  have HJ : Hid (∀ k W W', J k W → Below W.heap.size W W' → J k W') := hJ
  have HO : Hid (∀ W, Below n0 w0 W → ObsIn W A q l) := hO
  have HJb : Hid (∀ k W, J k W → Below n0 w0 W ∧ n1 ≤ W.heap.size) := hJb
  have HY : Hid _ := hY
  have hf := (hO _ (hJb 0 W h0).1).few
  have HC : Hid (∀ j, j < l.length → (ob l j).code.length ≤ 1048576) := fun j hj => ((hO _ (hJb 0 W h0).1).each j hj).hc
  clear hJ hO hJb hY
  refine callsIn_of_wp Tryz.func142 rfl trivial ?_ rfl
  simp only [Tryz.ntmps142, List.size_toArray, List.length_cons, List.length_nil, Nat.reduceAdd, Nat.reduceSub, Array.replicate_succ, Array.replicate_zero, List.push_toArray, List.append_toArray, List.nil_append, List.cons_append]
  gi_wp2
  gi_loopw [3, 8] (fun b i wr => ∃ k : Nat, k ≤ l.length ∧ i = .int .i64 k ∧ b = .int .i64 (bsF l k : Int) ∧ Hid (J k wr)) (fun _ i _ => l.length - (intOf i).toNat)
  case atStart => exact ⟨0, Nat.zero_le _, rfl, rfl, h0⟩
  case round =>
    obtain ⟨k, hk, rfl, rfl, HJk⟩ := hrel
    by_cases hlt : k < l.length
    · have hlt' : (k : Int) < (l.length : Int) := by omega
      obtain ⟨hb, hs⟩ := HJb.out k wr HJk.out
      obtain ⟨a, ea, x0, x1, x2, x3, x4, x5⟩ := (HO.out wr hb).cells.six (Below.refl _ _) k hlt
      subst ea
      have hcl := HC.out k hlt
      have hsf := sum_fits HC.out hf (Nat.le_of_lt hlt)
      obtain ⟨fn, tmps, assign, body, hy, hR⟩ := HY.out k (wr.alloc (.cells #[.string (ob l k).nm, .slice (q k).A1 (ob l k).code.length (q k).c1, .int .i64 (ob l k).dA, .slice (q k).A2 (ob l k).data.length (q k).c2, .slice (q k).A3 (ob l k).ss.length (q k).c3, .slice (q k).A4 (ob l k).rs.length (q k).c4] 75)) hlt (HJ.out k wr _ HJk.out (lb_alloc (Below.refl _ _) _))
      gi_wp2
      refine hR.mono ?_
      rintro e W3 (⟨rfl, hJ3, hk3⟩ | ⟨rfl, hJx3⟩)
      · have HJ3 : Hid (J (k + 1) W3) := hJ3
        have hc1 : W3.cell? ⟨wr.heap.size, 1, none⟩ = some (.slice (q k).A1 (ob l k).code.length (q k).c1) := by
          have := hk3.objs wr.heap.size _ _ (heap_alloc_new wr _) hs
          simp [World.cell?, this]
        clear hJ3 hk3 hR hy
        gi_wp2
        go_roundw
        case rel => exact ⟨k + 1, by omega, by go_num, by rw [bsF]; go_num, HJ3⟩
        case measure => simp [intOf]; omega
      · gi_wp2
        refine bodyPost_ret (results_none rfl _ _ _) rfl ?_
        exact ⟨⟨_, rfl⟩, .inr ⟨k, hlt, hJx3⟩⟩
    · obtain rfl : k = l.length := by omega
      have hlt' : ¬ ((l.length : Int) < (l.length : Int)) := by omega
      gi_wp2
      go_end0
      exact ⟨⟨_, rfl⟩, .inl HJk.out⟩

theorem Turn.of {n : Nat} {W W' : World} (h : Below W.heap.size W W') (hn : n ≤ W.heap.size) : Turn n W W' :=
  ⟨h.os, h.tape, h.output, h.size, fun b hb => h.block b (by omega), fun b _ _ _ e _ => h.block b (Array.getElem?_eq_some_iff.1 e).1⟩
/-- How a round's body may be left. -/
def RoundQ (n0 n1 : Nat) (I Ix : Nat → World → Prop) (k : Nat) (W : World) : Exit → Act → World → Prop
  | .normal, _, W' => Kept n0 n1 W W' ∧ I (k + 1) W'
  | .ret, _, W' => Kept n0 n1 W W' ∧ Ix k W'
  | _, _, _ => False
set_option maxHeartbeats 2000000 in
/-- A range over the layout. -/
theorem range_layout {g : Operand} {ps : Array Tmp} {assign body : Code} {Q : Exit → Act → World → Prop} {a : Act} {w : World} (n : Nat) (hn : 2 ≤ n) (n0 Bs : Nat) (A : Option Addr) (ca : Nat) (q : Nat → Pl) (l : List Ob) (w0 : World)
    (hg : a.eval g = .func (.func 142) #[] #[.pointer (some ⟨Bs, 0, none⟩)]) (hBs : w.cell? ⟨Bs, 0, none⟩ = some (.slice A l.length ca)) (hps : ps.size = 2)
    (hO : ∀ W, Below n0 w0 W → ObsIn W A q l) (hn0 : n0 ≤ w.heap.size) (I Ix : Nat → World → Prop)
    (hI : ∀ k W W', I k W → Turn w.heap.size W W' → I k W') (hIx : ∀ k W W', Ix k W → Turn w.heap.size W W' → Ix k W') (hIb : ∀ k W, I k W → Below n0 w0 W) (h0 : I 0 w) (a₁ : Nat → Act)
    (hassign : ∀ (l0 k : Nat) (W : World) (K : Act → World → Prop), K (a₁ k) W → assign.wpIn (Fence.wide.inRound l0) (n - 1 - 1) Tryz.prog (Exit.then K (fun _ _ _ => False)) { tmps := (ps.zip #[.int .i64 (k : Int), .int .i64 (bsF l k : Int)]).foldl (fun t (p, v) => t.setIfInBounds p v) a.tmps, defers := [] } W)
    (hbody : ∀ (l0 k : Nat) (W : World), k < l.length → w.heap.size ≤ W.heap.size → I k W → body.wpIn (Fence.wide.inRound l0) (n - 1 - 1) Tryz.prog (RoundQ n0 w.heap.size I Ix k W) (a₁ k) W)
    (hdone : ∀ (D : Nat) (W : World), w.heap.size ≤ D → I l.length W → W.heap[D]? = some (.deferred (some [])) → Q .normal { a with defers := { target := .collected D, args := #[] } :: a.defers } W)
    (hstop : ∀ (D k : Nat) (W : World), w.heap.size ≤ D → k < l.length → Ix k W → W.heap[D]? = some (.deferred (some [])) → Q .ret { a with defers := { target := .collected D, args := #[] } :: a.defers } W) :
    (Code.rangeFunc g ps assign body).wpIn Fence.wide n Tryz.prog Q a w := by
  refine wpIn_rangeFunc fun fn hfn => ?_
  obtain ⟨rec, hrec⟩ : ∃ rec : LoopState → Option Code → Loop, rec = fun st pe => { state := st, pending := pe, fn, tmps := a.tmps, params := ps, assign, body, defers := w.heap.size } := ⟨_, rfl⟩
  obtain ⟨W1, hW1⟩ : ∃ W1, (w.alloc (.deferred (some []))).alloc (.loop (rec .ready none)) = W1 := ⟨_, rfl⟩
  have b1 : Below w.heap.size w W1 := by rw [← hW1]; exact lb_alloc (lb_alloc (Below.refl _ _) _) _
  have L1 : W1.heap[w.heap.size + 1]? = some (.loop (rec .ready none)) := by
    rw [← hW1]; have := World.alloc_heap_new (w.alloc (.deferred (some []))) (.loop (rec .ready none)); rwa [World.size_alloc] at this
  have D1 : W1.heap[w.heap.size]? = some (.deferred (some [])) := by
    rw [← hW1]; exact (Below.heap_alloc _ _ _ (by simp)).trans (World.alloc_heap_new w _)
  have size : ∀ {W : World} {o : Obj}, W.heap[w.heap.size + 1]? = some o → w.heap.size ≤ W.heap.size := fun h => by
    have := (Array.getElem?_eq_some_iff.1 h).1
    omega
  refine ⟨w.heap.size + 1, [{ target := .collected w.heap.size, args := #[] }], W1, { target := .fn (.func 142) #[.pointer (some ⟨Bs, 0, none⟩)], args := #[.func (.yield (w.heap.size + 1)) #[] #[]] }, W1, 142, #[.func (.yield (w.heap.size + 1)) #[] #[], .pointer (some ⟨Bs, 0, none⟩)], W1, ?_, ?_, fun _ _ => trivial, ?_, (fun h => by cases h), ?_⟩
  · rw [← hW1, hrec]; exact run_enterLoop_outer _ _ _ _ _
  · simp only [resolve, hg]
    simp [go_sem]
  · have eg := enters_of Tryz.func142 (by kernel_rfl) rfl
    simp [invoke, go_sem, eg _ _]
  · refine (layout1_any (n - 1) (by omega) (w.heap.size + 1) Bs n0 w.heap.size A ca q l w0
      (fun k W => I k W ∧ W.heap[w.heap.size + 1]? = some (.loop (rec .ready none)) ∧ W.heap[w.heap.size]? = some (.deferred (some [])))
      (fun k W => Ix k W ∧ W.heap[w.heap.size + 1]? = some (.loop (rec .done (some .ret))) ∧ W.heap[w.heap.size]? = some (.deferred (some [])))
      (fun k W W' h hb => ⟨hI k W W' h.1 (Turn.of hb (size h.2.1)), (hb.block _ (Array.getElem?_eq_some_iff.1 h.2.1).1).trans h.2.1, (hb.block _ (Array.getElem?_eq_some_iff.1 h.2.2).1).trans h.2.2⟩)
      hO (fun k W h => ⟨hIb k W h.1, size h.2.1⟩) ?round W1 (lkeep b1 hBs) ⟨hI 0 w W1 h0 (Turn.of b1 (Nat.le_refl _)), L1, D1⟩).mono ?_
    case round =>
      rintro k W hk ⟨hi, hl, hd⟩
      have hlt : w.heap.size + 1 < W.heap.size := (Array.getElem?_eq_some_iff.1 hl).1
      have hy := run_yield (P := Tryz.prog) (args := #[.int .i64 (k : Int), .int .i64 (bsF l k : Int)]) hl (by rw [hrec]; simp [hps])
      rw [hrec] at hy
      refine ⟨fn, _, assign, body, hy, roundIn_of_wpIn hfn (hassign _ k W _ ⟨_, run_beginRound hl (by rw [hrec]), ?_⟩)⟩
      have l2 : (W.putObj (w.heap.size + 1) (.loop { rec .ready none with state := .busy })).heap[w.heap.size + 1]? = some (.loop { rec .ready none with state := .busy }) := World.putObj_heap_same hlt
      have d2 : (W.putObj (w.heap.size + 1) (.loop { rec .ready none with state := .busy })).heap[w.heap.size]? = some (.deferred (some [])) := (World.putObj_heap_other (by omega)).trans hd
      refine wpIn_mono (hbody _ k _ hk (by simp; omega) (hI k W _ hi (Turn.put hl rfl (by omega)))) ?_
      intro e a3 W3 hp
      cases e with
      | normal =>
        obtain ⟨k3, i3⟩ := hp
        have l3 := k3.other _ _ l2 (by omega) rfl
        have d3 := k3.other _ _ d2 (Nat.le_refl _) rfl
        have hr := run_endRound (P := Tryz.prog) none l3
        refine ⟨_, _, hr, .inl ⟨rfl, ⟨hI _ _ _ i3 (Turn.put l3 rfl (by omega)), ?_, (World.putObj_heap_other (by omega)).trans d3⟩, (KeptO.put hl rfl (by omega)).trans (k3.o.trans (KeptO.put l3 rfl (by omega)))⟩⟩
        rw [World.putObj_heap_same (Array.getElem?_eq_some_iff.1 l3).1, hrec]
        rfl
      | ret =>
        obtain ⟨k3, i3⟩ := hp
        have l3 := k3.other _ _ l2 (by omega) rfl
        have d3 := k3.other _ _ d2 (Nat.le_refl _) rfl
        have hr := run_endRound (P := Tryz.prog) (some .ret) l3
        refine ⟨_, _, hr, .inr ⟨rfl, hIx _ _ _ i3 (Turn.put l3 rfl (by omega)), ?_, (World.putObj_heap_other (by omega)).trans d3⟩⟩
        rw [World.putObj_heap_same (Array.getElem?_eq_some_iff.1 l3).1, hrec]
        rfl
      | exit id => exact hp.elim
      | goto t => exact hp.elim
      | panic ch => exact hp.elim
      | outgrown => exact hp.elim
    rintro e W2 ⟨⟨v, rfl⟩, ⟨hi, hl, hd⟩ | ⟨k, hk, hi, hl, hd⟩⟩
    · exact ⟨none, _, by have := run_endLoop (P := Tryz.prog) hl (by rw [hrec]; simp); rw [hrec] at this; exact this, hdone _ _ (Nat.le_refl _) (hI _ _ _ hi (Turn.put hl rfl (by omega))) ((World.putObj_heap_other (by omega)).trans hd)⟩
    · exact ⟨some .ret, _, by have := run_endLoop (P := Tryz.prog) hl (by rw [hrec]; simp); rw [hrec] at this; exact this, wpIn_ret (hstop _ k _ (Nat.le_refl _) hk (hIx _ _ _ hi (Turn.put hl rfl (by omega))) ((World.putObj_heap_other (by omega)).trans hd))⟩

end Go.Proofs.YthpkekpojhmaaaaGreatDoor
