/-
  An object that came in, opened: its name, its lists, where they lie; no condition. The names of the ops, as plain functions; no Go in sight.
-/
import Derived.Test.YtbckolkgncajfaaGreatDoorLo01
import Derived.Test.YtbckolkgncajfaaGreatDoorRows
import Derived.WalkKit
import Derived.ProofKit
import Derived.OpenShut
import Derived.Stop.Joined
import Derived.Carry
import Derived.Lib.SmallJoins
import Derived.Deep.SlicePairs
import Derived.Deep.Strs
import Derived.SizedLaws
import Derived.RowKit
namespace Go.Proofs.YtbckolkgncajfaaGreatDoor
open Go.ChangeShapes Go.WideShapes Go.ChangeAt Go.RowKit Go.Joins

theorem open_i {H : Type} {enc : TypeId × Value → H} {W : World} {base : Nat} {sp : Nat → Bool} {held : Bool} {fuel : Nat} {cs : List Value} {x : DataW H × List MemPlace} {t e : TypeId} {k : IntKind} (ht : Tryz.prog.underlying t = some (.slice e)) (he : Tryz.prog.underlying e = some (.int k)) (hc : Tryz.prog.cellsOf e = 1) (h : DataW.trod enc Tryz.prog W base sp held fuel t cs = some x) :
    ∃ (O : Option Addr) (cap : Nat) (zs : List Int), cs = [.slice O zs.length cap] ∧ IntsAt W O k zs ∧ zs.length ≤ maxLen ∧ (∀ i, i < zs.length → (Lit.int k (nth zs i)).wf = true) ∧ (O = none → cap = 0) := by
  rcases open_ints ht he hc h with ⟨rfl, _⟩ | ⟨a, len, cap, zs, rfl, _, hl, hm, hz, _, hcell, hwf⟩
  · exact ⟨none, 0, [], rfl, fun i hi => by simp at hi, by simp, fun i hi => by simp at hi, fun _ => rfl⟩
  · have hlen : len ≤ zs.length := by rw [hz]; split <;> omega
    have hn : ∀ i, i < len → nth (zs.take len) i = zs.getD i 0 := fun i hi => by simp [nth, List.getD, hi]
    have hl2 : (zs.take len).length = len := by rw [List.length_take, Nat.min_eq_left hlen]
    refine ⟨some a, cap, zs.take len, by rw [hl2], ?_, by omega, ?_, fun h => by cases h⟩
    · intro i hi
      rw [hl2] at hi
      exact ⟨a, rfl, by rw [hn i hi]; exact hcell i (by omega)⟩
    · intro i hi
      rw [hl2] at hi
      rw [hn i hi]
      refine hwf _ ?_
      simp [List.getD, show i < zs.length by omega]
theorem open_b {H : Type} {enc : TypeId × Value → H} {W : World} {base : Nat} {sp : Nat → Bool} {held : Bool} {v : Value} {d : DataW H} {p : List MemPlace} (h : DataW.Trod enc Tryz.prog W base sp held 75 v d p) (hv : v.cells = #[v]) :
    ∃ (O : Option Addr) (cap : Nat) (zs : List Int), v = .slice O zs.length cap ∧ IntsAt W O .u8 zs ∧ zs.length ≤ maxLen ∧ (∀ i, i < zs.length → 0 ≤ nth zs i ∧ nth zs i < 256) ∧ (O = none → cap = 0) := by
  obtain ⟨fuel, hf⟩ := h
  rw [hv] at hf
  obtain ⟨O, cap, zs, e, k, hl, hwf, u⟩ := open_i Tryz.underlying75 Tryz.underlying5 (by kernel_rfl) hf
  refine ⟨O, cap, zs, by simpa using e, k, hl, fun i hi => ?_, u⟩
  have := hwf i hi
  simp [Lit.wf, IntKind.min, IntKind.max, IntKind.signed, IntKind.bits] at this
  omega
set_option maxRecDepth 100000 in
theorem open_bs {H : Type} {enc : TypeId × Value → H} {W : World} {b0 base : Nat} {sp : Nat → Bool} {held : Bool} {v : Value} {d : DataW H} {p : List MemPlace} (hv : Value.okWide Tryz.prog W .any b0 75 v) (h : DataW.Trod enc Tryz.prog W base sp held 75 v d p) :
    ∃ (O : Option Addr) (cap : Nat) (zs : List Int), v = .slice O zs.length cap ∧ IntsAt W O .u8 zs ∧ zs.length ≤ maxLen ∧ (∀ i, i < zs.length → 0 ≤ nth zs i ∧ nth zs i < 256) ∧ (O = none → cap = 0) := by
  obtain ⟨a, len, c, rfl⟩ := okWide_slice Tryz.underlying75 hv
  obtain ⟨fuel, hf⟩ := h
  obtain ⟨O, cap, zs, e, k, hl, hwf, u⟩ := open_i Tryz.underlying75 Tryz.underlying5 (by kernel_rfl) hf
  refine ⟨O, cap, zs, ?_, k, hl, fun i hi => ?_, u⟩
  · simpa [Value.cells] using e
  · have := hwf i hi
    simp [Lit.wf, IntKind.min, IntKind.max, IntKind.signed, IntKind.bits] at this
    omega
theorem mk_at {α : Type} (f : Nat → α) (n : Nat) (z : α) (i : Nat) (h : i < n) : ((List.range n).map f).getD i z = f i := by simp [List.getD, h]
theorem open_rels {H : Type} {enc : TypeId × Value → H} {W : World} {base : Nat} {sp : Nat → Bool} {held : Bool} {fuel : Nat} {cs : List Value} {x : DataW H × List MemPlace} (h : DataW.trod enc Tryz.prog W base sp held fuel 63 cs = some x) :
    ∃ (O : Option Addr) (cap : Nat) (zs : List Rel), cs = [.slice O zs.length cap] ∧ RelsAt W O zs ∧ zs.length ≤ maxLen ∧ (O = none → cap = 0) := by
  rcases Deep.open_slice_pairs Tryz.underlying63 Tryz.underlying71 (by kernel_rfl) rfl rfl (by kernel_rfl) (by kernel_rfl) h with ⟨rfl, _⟩ | ⟨a, len, cap, m, n, V0, V1, D0, D1, P0, P1, rfl, _, hl, hm, hmm, _, hx⟩
  · exact ⟨none, 0, [], rfl, fun i hi => by simp at hi, by simp, fun _ => rfl⟩
  · have hlm : len ≤ m := by rw [hmm]; split <;> omega
    have each : ∀ i, ∃ q : Rel, i < len → W.cell? (a.add (i * 2)) = some (.int .i64 q.1) ∧ W.cell? (a.add (i * 2 + 1)) = some (.int .i64 q.2) := by
      intro i
      by_cases hi : i < len
      · obtain ⟨h0, h1, t0, t1⟩ := hx i (by omega)
        obtain ⟨u, e0, _, _⟩ := DataW.trod_int Tryz.underlying3 t0
        obtain ⟨v, e1, _, _⟩ := DataW.trod_int Tryz.underlying3 t1
        simp at e0 e1
        exact ⟨(u, v), fun _ => ⟨by rw [h0, e0], by rw [h1, e1]⟩⟩
      · exact ⟨(0, 0), fun h => absurd h hi⟩
    obtain ⟨f, hf⟩ := Classical.axiomOfChoice each
    refine ⟨some a, cap, (List.range len).map f, by simp, ?_, by simp; omega, fun h => by cases h⟩
    intro i hi
    have hi' : i < len := by simpa using hi
    refine ⟨a, rfl, ?_, ?_⟩
    · unfold rAt; rw [mk_at _ _ _ _ hi']; exact (hf i hi').1
    · unfold rSym; rw [mk_at _ _ _ _ hi', Deep.add_add]; exact (hf i hi').2
theorem mem_all {H : Type} {P : Program} {e : TypeId} {d : DataW H} {n : Nat} : ∀ {l : List (DataW H)}, d ∈ l → n ∈ d.weights P e → n ∈ DataW.weightsAll P e l
  | [], h, _ => by cases h
  | x :: l, h, hn => by
    rw [DataW.weightsAll, List.mem_append]
    rcases List.mem_cons.1 h with rfl | h
    · exact Or.inl hn
    · exact Or.inr (mem_all h hn)
set_option maxRecDepth 100000 in
theorem open_syms {H : Type} {enc : TypeId × Value → H} {W : World} {base : Nat} {sp : Nat → Bool} {held : Bool} {fuel : Nat} {cs : List Value} {x : DataW H × List MemPlace} (h : DataW.trod enc Tryz.prog W base sp held fuel 62 cs = some x) :
    ∃ (O : Option Addr) (cap : Nat) (zs : List Sym), cs = [.slice O zs.length cap] ∧ SymsAt W O zs ∧ ((∀ n ∈ x.1.weights Tryz.prog 62, n ≤ reachBytes) → zs.length ≤ reachBytes ∧ ∀ i, (sName zs i).size ≤ reachBytes) ∧ (∀ i, i < zs.length → (Lit.int .i8 (sKind zs i)).wf = true ∧ (Lit.int .i64 (sAt zs i)).wf = true) ∧ (O = none → cap = 0) := by
  rcases Deep.open_slice Tryz.underlying62 h with ⟨rfl, _⟩ | ⟨a, len, cap, m, n, D, Pl, rfl, _, hl, hm, hmm, hxx, hx⟩
  · exact ⟨none, 0, [], rfl, fun i hi => by simp at hi, fun _ => ⟨Nat.zero_le _, fun i => Nat.zero_le _⟩, fun i hi => by simp at hi, fun _ => rfl⟩
  · have hlm : len ≤ m := by rw [hmm]; split <;> omega
    have each : ∀ i, ∃ q : Sym, (i < len → (∃ y1 y2, D i = .agg [.lit (.string q.1.data.toList), y1, y2]) ∧ W.cell? (a.add (i * 3)) = some (.string q.1) ∧ W.cell? (a.add (i * 3 + 1)) = some (.int .i8 q.2.1) ∧ W.cell? (a.add (i * 3 + 2)) = some (.int .i64 q.2.2) ∧ (Lit.int .i8 q.2.1).wf = true ∧ (Lit.int .i64 q.2.2).wf = true) := by
      intro i
      by_cases hi : i < len
      · obtain ⟨cs', h1, h2⟩ := hx i (by omega)
        rw [show Tryz.prog.cellsOf 69 = 3 by kernel_rfl] at h1
        obtain ⟨_, hlen, hcell⟩ := World.cells?_some h1
        obtain ⟨y0, y1, y2, k, hD, _, g0, g1, g2⟩ := Deep.trod_struct3 Tryz.underlying69 h2
        match cs', hlen with
        | [v0, v1, v2], _ =>
          simp [show Tryz.prog.cellsOf 9 = 1 by kernel_rfl, show Tryz.prog.cellsOf 67 = 1 by kernel_rfl, show Tryz.prog.cellsOf 3 = 1 by kernel_rfl] at g0 g1 g2
          obtain ⟨s, e0, ey, hs⟩ := DataW.trod_string Tryz.underlying9 g0
          obtain ⟨u, e1, _, hu⟩ := DataW.trod_int Tryz.underlying67 g1
          obtain ⟨v, e2, _, hv⟩ := DataW.trod_int Tryz.underlying3 g2
          simp at e0 e1 e2
          subst e0 e1 e2
          have q0 := hcell 0 (by omega)
          have q1 := hcell 1 (by omega)
          have q2 := hcell 2 (by omega)
          rw [Deep.add_add] at q0 q1 q2
          exact ⟨(s, u, v), fun _ => ⟨⟨y1.1, y2.1, by have := congrArg Prod.fst hD; rw [ey] at this; exact this⟩, by simpa using q0, by simpa using q1, by simpa using q2, hu, hv⟩⟩
      · exact ⟨symD, fun h => absurd h hi⟩
    obtain ⟨f, hf⟩ := Classical.axiomOfChoice each
    refine ⟨some a, cap, (List.range len).map f, by simp, ?_, ?_, ?_, fun h => by cases h⟩
    · intro i hi
      have hi' : i < len := by simpa using hi
      obtain ⟨_, h0, h1, h2, _, _⟩ := hf i hi'
      refine ⟨a, rfl, ?_, ?_, ?_⟩
      · unfold sName; rw [mk_at _ _ _ _ hi']; exact h0
      · unfold sKind; rw [mk_at _ _ _ _ hi', Deep.add_add]; exact h1
      · unfold sAt; rw [mk_at _ _ _ _ hi', Deep.add_add]; exact h2
    · intro hw
      subst hxx
      have hu : DataW.weights Tryz.prog 62 (.slice ((List.range len).map D) ((List.range (m - len)).map fun j => D (len + j))) = (((List.range len).map D).length + ((List.range (m - len)).map fun j => D (len + j)).length) * Tryz.prog.bytesOf 69 :: (DataW.weightsAll Tryz.prog 69 ((List.range len).map D) ++ DataW.weightsAll Tryz.prog 69 ((List.range (m - len)).map fun j => D (len + j))) := by
        simp only [DataW.weights, Tryz.underlying62]
      simp only [hu] at hw
      constructor
      · have h := hw _ (List.mem_cons_self ..)
        rw [show Tryz.prog.bytesOf 69 = 32 by kernel_rfl] at h
        simp at h ⊢
        omega
      · intro i
        by_cases hi : i < len
        · obtain ⟨⟨y1, y2, hD⟩, _⟩ := hf i hi
          unfold sName; rw [mk_at _ _ _ _ hi]
          have hm2 : (f i).1.data.toList.length ∈ DataW.weightsAll Tryz.prog 69 ((List.range len).map D) := by
            refine mem_all (d := D i) (List.mem_map.2 ⟨i, by simpa using hi, rfl⟩) ?_
            rw [hD]
            simp only [DataW.weights, Tryz.underlying69]
            exact DataW.weights_mem_each (j := 0) (t := 9) rfl rfl _ (by simp [DataW.weights])
          have h := hw _ (List.mem_cons_of_mem _ (List.mem_append_left _ hm2))
          simpa using h
        · have : ((List.range len).map f).getD i symD = symD := by simp [List.getD, hi]
          unfold sName; rw [this]; exact Nat.zero_le _
    · intro i hi
      have hi' : i < len := by simpa using hi
      obtain ⟨_, _, _, _, h3, h4⟩ := hf i hi'
      unfold sKind sAt
      rw [mk_at _ _ _ _ hi']
      exact ⟨h3, h4⟩
theorem six {cs : Array Value} (h : cs.size = 6) : ∃ a b c d e f, cs = #[a, b, c, d, e, f] := by
  obtain ⟨l⟩ := cs
  match l, h with
  | [a, b, c, d, e, f], _ => exact ⟨a, b, c, d, e, f, rfl⟩
set_option maxRecDepth 100000 in
theorem openObj {H : Type} {enc : TypeId × Value → H} {W : World} {b0 base : Nat} {spare : Nat → Bool} {held : Bool} {v : Value} {d : DataW H} {p : List MemPlace}
    (hv : Value.okWide Tryz.prog W .any b0 65 v) (h : DataW.Trod enc Tryz.prog W base spare held 65 v d p) (hw : ∀ n ∈ d.weights Tryz.prog 65, n ≤ reachBytes) :
    ∃ (nm : ByteArray) (dA : Int) (A1 A2 A3 A4 : Option Addr) (c1 c2 c3 c4 : Nat) (code data : List Int) (ss : List Sym) (rs : List Rel),
      v = .agg #[.string nm, .slice A1 code.length c1, .int .i64 dA, .slice A2 data.length c2, .slice A3 ss.length c3, .slice A4 rs.length c4] ∧
      IntsAt W A1 .u32 code ∧ IntsAt W A2 .i64 data ∧ SymsAt W A3 ss ∧ RelsAt W A4 rs ∧ (∀ i, i < code.length → 0 ≤ nth code i ∧ nth code i < 4294967296) ∧ (∀ i, (sName ss i).size ≤ 140737488355328) ∧ ss.length ≤ 140737488355328 ∧ nm.size ≤ maxLen ∧ (-9223372036854775808 ≤ dA ∧ dA ≤ 9223372036854775807) ∧ (A1 = none → c1 = 0) ∧ (A2 = none → c2 = 0) ∧ (A3 = none → c3 = 0) ∧ (A4 = none → c4 = 0) ∧ (∀ i, i < data.length → -9223372036854775808 ≤ nth data i ∧ nth data i < 9223372036854775808) := by
  obtain ⟨cs, rfl, hsz⟩ := okWide_struct Tryz.underlying65 hv
  obtain ⟨v0, v1, v2, v3, v4, v5, rfl⟩ := six (hsz.trans (by kernel_rfl))
  obtain ⟨fuel, hf⟩ := h
  obtain ⟨xs, n, _, hdd, _, hlen, hf⟩ := DataW.trod_struct Tryz.underlying65 hf
  match xs, hlen with
  | [y0, y1, y2, y3, y4, y5], _ =>
    have h0 := hf 0 _ rfl
    have h1 := hf 1 _ rfl
    have h2 := hf 2 _ rfl
    have h3 := hf 3 _ rfl
    have h4 := hf 4 _ rfl
    have h5 := hf 5 _ rfl
    simp [Value.cells, show Tryz.prog.cellsOf 9 = 1 by kernel_rfl, show Tryz.prog.cellsOf 22 = 1 by kernel_rfl, show Tryz.prog.cellsOf 3 = 1 by kernel_rfl, show Tryz.prog.cellsOf 61 = 1 by kernel_rfl, show Tryz.prog.cellsOf 62 = 1 by kernel_rfl, show Tryz.prog.cellsOf 63 = 1 by kernel_rfl] at h0 h1 h2 h3 h4 h5
    obtain ⟨nm, e0, _, hnm⟩ := DataW.trod_string Tryz.underlying9 h0
    obtain ⟨A1, c1, code, e1, k1, _, r1, u1⟩ := open_i Tryz.underlying22 Tryz.underlying31 (by kernel_rfl) h1
    obtain ⟨dA, e2, _, w2⟩ := DataW.trod_int Tryz.underlying3 h2
    obtain ⟨A2, c2, data, e3, k3, _, r3, u2⟩ := open_i Tryz.underlying61 Tryz.underlying2 (by kernel_rfl) h3
    obtain ⟨A3, c3, ss, e4, k4, n4, _, u3⟩ := open_syms h4
    obtain ⟨A4, c4, rs, e5, k5, _, u4⟩ := open_rels h5
    have hw4 : ∀ n ∈ y4.1.weights Tryz.prog 62, n ≤ reachBytes := fun n hn => by
      refine hw n ?_
      have hd : d = .agg [y0.1, y1.1, y2.1, y3.1, y4.1, y5.1] := congrArg Prod.fst hdd
      rw [hd]
      simp only [DataW.weights, Tryz.underlying65]
      exact DataW.weights_mem_each (j := 4) (t := 62) rfl rfl n hn
    simp at e0 e1 e2 e3 e4 e5
    subst e0 e1 e2 e3 e4 e5
    refine ⟨nm, dA, A1, A2, A3, A4, c1, c2, c3, c4, code, data, ss, rs, rfl, k1, k3, k4, k5, fun i hi => ?_, ?_, ?_, hnm, ?_, u1, u2, u3, u4, fun i hi => ?_⟩
    · have := r1 i hi
      simp [Lit.wf, IntKind.min, IntKind.max, IntKind.signed, IntKind.bits] at this
      omega
    · intro i
      have := (n4 hw4).2 i
      simp [reachBytes] at this; omega
    · have := (n4 hw4).1
      simp [reachBytes] at this; omega
    · simp [Lit.wf, IntKind.min, IntKind.max, IntKind.signed, IntKind.bits] at w2
      omega
    · have := r3 i hi
      simp [Lit.wf, IntKind.min, IntKind.max, IntKind.signed, IntKind.bits] at this
      omega




end Go.Proofs.YtbckolkgncajfaaGreatDoor

namespace Go.Proofs.YtbckolkgncajfaaGreatDoor
open Go.RowKit

/-- The names, a blank behind each. -/
def nmB : ByteArray := ⟨#[116, 114, 97, 112, 32, 115, 101, 116, 32, 109, 111, 118, 101, 32, 97, 100, 100, 32, 115, 117, 98, 32, 109, 117, 108, 32, 97, 110, 100, 32, 111, 114, 32, 120, 111, 114, 32, 108, 101, 115, 115, 32, 115, 97, 109, 101, 32, 108, 111, 97, 100, 32, 115, 116, 111, 114, 101, 32, 105, 110, 32, 111, 117, 116, 32, 106, 117, 109, 112, 32, 122, 101, 114, 111, 32, 99, 97, 108, 108, 32, 99, 97, 108, 108, 115, 32, 103, 111, 32, 112, 108, 97, 99, 101, 32, 104, 97, 108, 116, 32]⟩
def nmL : List UInt8 := nmB.data.toList
/-- From where to where the op's name stands. -/
def scan : List UInt8 → Nat → Nat → Nat → Int → Option (Nat × Nat)
  | [], _, _, _, _ => none
  | c :: l, i, a, k, op => if c.toNat = 32 then (if (k : Int) = op then some (a, i) else scan l (i + 1) (i + 1) (k + 1) op) else scan l (i + 1) a k op
/-- An op's name. -/
def nameB (op : Int) : ByteArray := if op < 0 ∨ 21 < op then ⟨#[]⟩ else match scan nmL 0 0 0 op with
  | some p => nmB.extract p.1 p.2
  | none => ⟨#[]⟩
/-- The op of a name, of those on a list. -/
def ofAux : List Int → List UInt8 → Option Int
  | [], _ => none
  | k :: ks, l => if (nameB k).data.toList = l then some k else ofAux ks l
def ops : List Int := [0, 1, 2, 3, 4, 5, 6, 7, 8, 9, 10, 11, 12, 13, 14, 15, 16, 17, 18, 19, 20, 21]
def ofF (l : List UInt8) : Option Int := ofAux ops l

theorem nmB_size : nmB.size = 100 := by decide +kernel
theorem nm_drop (c : Nat) (h : c < nmB.size) : nmL.drop c = nmB[c] :: nmL.drop (c + 1) := by
  have h' : c < nmB.data.toList.length := by simpa using h
  unfold nmL
  rw [List.drop_eq_getElem_cons h']; rfl
theorem scan_ne {c a k : Nat} {op : Int} (h : c < nmB.size) (hb : ((nmB[c].toNat : Int) != 32) = true) : scan (nmL.drop c) c a k op = scan (nmL.drop (c + 1)) (c + 1) a k op := by
  rw [nm_drop c h, scan, if_neg]
  intro hc; rw [hc] at hb; simp at hb
theorem scan_at {c a k : Nat} {op : Int} (h : c < nmB.size) (hb : ((nmB[c].toNat : Int) != 32) = false) (hk : ((k : Int) == op) = true) : scan (nmL.drop c) c a k op = some (a, c) := by
  have hc : nmB[c].toNat = 32 := by simp at hb; omega
  rw [nm_drop c h, scan, if_pos hc, if_pos (by simpa using hk)]
theorem scan_on {c a k : Nat} {op : Int} (h : c < nmB.size) (hb : ((nmB[c].toNat : Int) != 32) = false) (hk : ((k : Int) == op) = false) : scan (nmL.drop c) c a k op = scan (nmL.drop (c + 1)) (c + 1) (c + 1) (k + 1) op := by
  have hc : nmB[c].toNat = 32 := by simp at hb; omega
  rw [nm_drop c h, scan, if_pos hc, if_neg (by simpa using hk)]
theorem name_some {op : Int} {a c : Nat} (h : ¬ (op < 0 ∨ 21 < op)) (hs : scan nmL 0 0 0 op = some (a, c)) : nameB op = nmB.extract a c := by
  unfold nameB; rw [if_neg h, hs]
theorem name_none {op : Int} (hs : scan nmL 0 0 0 op = none) : nameB op = ⟨#[]⟩ := by
  unfold nameB; split
  · rfl
  · rw [hs]
theorem name_out {op : Int} (h : op < 0 ∨ 21 < op) : nameB op = ⟨#[]⟩ := by
  unfold nameB; rw [if_pos h]
theorem ops_drop (j : Nat) (h : j < 22) : ops.drop j = (j : Int) :: ops.drop (j + 1) := by
  have : ∀ i : Fin 22, ops.drop i.val = (i.val : Int) :: ops.drop (i.val + 1) := by decide
  exact this ⟨j, h⟩
theorem of_yes {j : Nat} {l : List UInt8} (h : j < 22) (hn : (nameB j).data.toList = l) : ofAux (ops.drop j) l = some (j : Int) := by
  rw [ops_drop j h, ofAux, if_pos hn]
theorem of_no {j : Nat} {l : List UInt8} (h : j < 22) (hn : ¬ (nameB j).data.toList = l) : ofAux (ops.drop j) l = ofAux (ops.drop (j + 1)) l := by
  rw [ops_drop j h, ofAux, if_neg hn]


end Go.Proofs.YtbckolkgncajfaaGreatDoor
