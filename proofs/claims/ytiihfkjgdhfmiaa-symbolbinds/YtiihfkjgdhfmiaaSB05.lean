/-
  An object that came in, opened: its name, its lists, where they lie; no condition. What a list of objects that is handed in is. What names stand for, as plain mathematics; no Go in sight.
-/
import Derived.Test.YtiihfkjgdhfmiaaSB01
import Derived.Test.YtiihfkjgdhfmiaaRows
import Derived.WalkKit
import Derived.ProofKit
import Derived.OpenShut
import Derived.Stop.Joined
import Derived.Carry
import Derived.Lib.SmallJoins
import Derived.Deep.SlicePairs
import Derived.Deep.Strs
import Derived.SizedLaws
import Derived.Test.YtiihfkjgdhfmiaaProg
import Derived.WalkSpells
import Derived.WalkLawsBesides
import Derived.RowKit3
import Derived.Below
import Derived.Deep.QuietTactic
import Derived.BigQuiet
import Derived.WalkSmall
import Derived.Laws.Rows
import Derived.Test.YtiihfkjgdhfmiaaSB02
import Derived.Test.YtiihfkjgdhfmiaaSB03
import Derived.Test.YtiihfkjgdhfmiaaSB04
namespace Go.Proofs.Ytiihfkjgdhfmiaa
open Go.ChangeShapes Go.WideShapes Go.ChangeAt Go.RowKit Go.Joins

theorem open_i {H : Type} {enc : TypeId × Value → H} {W : World} {base : Nat} {sp : Nat → Bool} {held : Bool} {fuel : Nat} {cs : List Value} {x : DataW H × List MemPlace} {t e : TypeId} {k : IntKind} (ht : Try.prog.underlying t = some (.slice e)) (he : Try.prog.underlying e = some (.int k)) (hc : Try.prog.cellsOf e = 1) (h : DataW.trod enc Try.prog W base sp held fuel t cs = some x) :
    ∃ (O : Option Addr) (cap : Nat) (zs : List Int), cs = [.slice O zs.length cap] ∧ IntsAt W O k zs ∧ zs.length ≤ maxLen ∧ (∀ i, i < zs.length → (Lit.int k (nth zs i)).wf = true) ∧ (O = none → cap = 0) := by
  rcases open_ints ht he hc h with ⟨rfl, _⟩ | ⟨a, len, cap, zs, rfl, _, hl, hm, hz, _, hcell, hwf⟩
  · exact ⟨none, 0, [], rfl, fun i hi => by simp at hi, by simp, fun i hi => by simp at hi, fun _ => rfl⟩
  · have hlen : len ≤ zs.length := by rw [hz]; split <;> omega
    have hn : ∀ i, i < len → nth (zs.take len) i = zs.getD i 0 := fun i hi => by simp [nth, List.getD, hi]
    have hl2 : (zs.take len).length = len := by rw [List.length_take, Nat.min_eq_left hlen]
    refine ⟨some a, cap, zs.take len, by rw [hl2], ?_, by omega, ?_, fun h => by cases h⟩
    · intro i hi
      rw [hl2] at hi
      exact ⟨a, rfl, by rw [hn i hi]; exact hcell i (by omega)⟩
    · intro i hi
      rw [hl2] at hi
      rw [hn i hi]
      refine hwf _ ?_
      simp [List.getD, show i < zs.length by omega]
theorem mk_at {α : Type} (f : Nat → α) (n : Nat) (z : α) (i : Nat) (h : i < n) : ((List.range n).map f).getD i z = f i := by simp [List.getD, h]
theorem open_rels {H : Type} {enc : TypeId × Value → H} {W : World} {base : Nat} {sp : Nat → Bool} {held : Bool} {fuel : Nat} {cs : List Value} {x : DataW H × List MemPlace} (h : DataW.trod enc Try.prog W base sp held fuel 47 cs = some x) :
    ∃ (O : Option Addr) (cap : Nat) (zs : List Rel), cs = [.slice O zs.length cap] ∧ RelsAt W O zs ∧ zs.length ≤ maxLen ∧ (O = none → cap = 0) := by
  rcases Deep.open_slice_pairs Try.underlying47 Try.underlying96 (by kernel_rfl) rfl rfl (by kernel_rfl) (by kernel_rfl) h with ⟨rfl, _⟩ | ⟨a, len, cap, m, n, V0, V1, D0, D1, P0, P1, rfl, _, hl, hm, hmm, _, hx⟩
  · exact ⟨none, 0, [], rfl, fun i hi => by simp at hi, by simp, fun _ => rfl⟩
  · have hlm : len ≤ m := by rw [hmm]; split <;> omega
    have each : ∀ i, ∃ q : Rel, i < len → W.cell? (a.add (i * 2)) = some (.int .i64 q.1) ∧ W.cell? (a.add (i * 2 + 1)) = some (.int .i64 q.2) := by
      intro i
      by_cases hi : i < len
      · obtain ⟨h0, h1, t0, t1⟩ := hx i (by omega)
        obtain ⟨u, e0, _, _⟩ := DataW.trod_int Try.underlying3 t0
        obtain ⟨v, e1, _, _⟩ := DataW.trod_int Try.underlying3 t1
        simp at e0 e1
        exact ⟨(u, v), fun _ => ⟨by rw [h0, e0], by rw [h1, e1]⟩⟩
      · exact ⟨(0, 0), fun h => absurd h hi⟩
    obtain ⟨f, hf⟩ := Classical.axiomOfChoice each
    refine ⟨some a, cap, (List.range len).map f, by simp, ?_, by simp; omega, fun h => by cases h⟩
    intro i hi
    have hi' : i < len := by simpa using hi
    refine ⟨a, rfl, ?_, ?_⟩
    · unfold rAt; rw [mk_at _ _ _ _ hi']; exact (hf i hi').1
    · unfold rSym; rw [mk_at _ _ _ _ hi', Deep.add_add]; exact (hf i hi').2
theorem mem_all {H : Type} {P : Program} {e : TypeId} {d : DataW H} {n : Nat} : ∀ {l : List (DataW H)}, d ∈ l → n ∈ d.weights P e → n ∈ DataW.weightsAll P e l
  | [], h, _ => by cases h
  | x :: l, h, hn => by
    rw [DataW.weightsAll, List.mem_append]
    rcases List.mem_cons.1 h with rfl | h
    · exact Or.inl hn
    · exact Or.inr (mem_all h hn)
set_option maxRecDepth 100000 in
theorem open_syms {H : Type} {enc : TypeId × Value → H} {W : World} {base : Nat} {sp : Nat → Bool} {held : Bool} {fuel : Nat} {cs : List Value} {x : DataW H × List MemPlace} (h : DataW.trod enc Try.prog W base sp held fuel 46 cs = some x) :
    ∃ (O : Option Addr) (cap : Nat) (zs : List Sym), cs = [.slice O zs.length cap] ∧ SymsAt W O zs ∧ ((∀ n ∈ x.1.weights Try.prog 46, n ≤ reachBytes) → zs.length ≤ reachBytes ∧ ∀ i, (sName zs i).size ≤ reachBytes) ∧ (∀ i, i < zs.length → (Lit.int .i8 (sKind zs i)).wf = true ∧ (Lit.int .i64 (sAt zs i)).wf = true) ∧ (O = none → cap = 0) := by
  rcases Deep.open_slice Try.underlying46 h with ⟨rfl, _⟩ | ⟨a, len, cap, m, n, D, Pl, rfl, _, hl, hm, hmm, hxx, hx⟩
  · exact ⟨none, 0, [], rfl, fun i hi => by simp at hi, fun _ => ⟨Nat.zero_le _, fun i => Nat.zero_le _⟩, fun i hi => by simp at hi, fun _ => rfl⟩
  · have hlm : len ≤ m := by rw [hmm]; split <;> omega
    have each : ∀ i, ∃ q : Sym, (i < len → (∃ y1 y2, D i = .agg [.lit (.string q.1.data.toList), y1, y2]) ∧ W.cell? (a.add (i * 3)) = some (.string q.1) ∧ W.cell? (a.add (i * 3 + 1)) = some (.int .i8 q.2.1) ∧ W.cell? (a.add (i * 3 + 2)) = some (.int .i64 q.2.2) ∧ (Lit.int .i8 q.2.1).wf = true ∧ (Lit.int .i64 q.2.2).wf = true) := by
      intro i
      by_cases hi : i < len
      · obtain ⟨cs', h1, h2⟩ := hx i (by omega)
        rw [show Try.prog.cellsOf 52 = 3 by kernel_rfl] at h1
        obtain ⟨_, hlen, hcell⟩ := World.cells?_some h1
        obtain ⟨y0, y1, y2, k, hD, _, g0, g1, g2⟩ := Deep.trod_struct3 Try.underlying52 h2
        match cs', hlen with
        | [v0, v1, v2], _ =>
          simp [show Try.prog.cellsOf 9 = 1 by kernel_rfl, show Try.prog.cellsOf 50 = 1 by kernel_rfl, show Try.prog.cellsOf 3 = 1 by kernel_rfl] at g0 g1 g2
          obtain ⟨s, e0, ey, hs⟩ := DataW.trod_string Try.underlying9 g0
          obtain ⟨u, e1, _, hu⟩ := DataW.trod_int Try.underlying50 g1
          obtain ⟨v, e2, _, hv⟩ := DataW.trod_int Try.underlying3 g2
          simp at e0 e1 e2
          subst e0 e1 e2
          have q0 := hcell 0 (by omega)
          have q1 := hcell 1 (by omega)
          have q2 := hcell 2 (by omega)
          rw [Deep.add_add] at q0 q1 q2
          exact ⟨(s, u, v), fun _ => ⟨⟨y1.1, y2.1, by have := congrArg Prod.fst hD; rw [ey] at this; exact this⟩, by simpa using q0, by simpa using q1, by simpa using q2, hu, hv⟩⟩
      · exact ⟨symD, fun h => absurd h hi⟩
    obtain ⟨f, hf⟩ := Classical.axiomOfChoice each
    refine ⟨some a, cap, (List.range len).map f, by simp, ?_, ?_, ?_, fun h => by cases h⟩
    · intro i hi
      have hi' : i < len := by simpa using hi
      obtain ⟨_, h0, h1, h2, _, _⟩ := hf i hi'
      refine ⟨a, rfl, ?_, ?_, ?_⟩
      · unfold sName; rw [mk_at _ _ _ _ hi']; exact h0
      · unfold sKind; rw [mk_at _ _ _ _ hi', Deep.add_add]; exact h1
      · unfold sAt; rw [mk_at _ _ _ _ hi', Deep.add_add]; exact h2
    · intro hw
      subst hxx
      have hu : DataW.weights Try.prog 46 (.slice ((List.range len).map D) ((List.range (m - len)).map fun j => D (len + j))) = (((List.range len).map D).length + ((List.range (m - len)).map fun j => D (len + j)).length) * Try.prog.bytesOf 52 :: (DataW.weightsAll Try.prog 52 ((List.range len).map D) ++ DataW.weightsAll Try.prog 52 ((List.range (m - len)).map fun j => D (len + j))) := by
        simp only [DataW.weights, Try.underlying46]
      simp only [hu] at hw
      constructor
      · have h := hw _ (List.mem_cons_self ..)
        rw [show Try.prog.bytesOf 52 = 32 by kernel_rfl] at h
        simp at h ⊢
        omega
      · intro i
        by_cases hi : i < len
        · obtain ⟨⟨y1, y2, hD⟩, _⟩ := hf i hi
          unfold sName; rw [mk_at _ _ _ _ hi]
          have hm2 : (f i).1.data.toList.length ∈ DataW.weightsAll Try.prog 52 ((List.range len).map D) := by
            refine mem_all (d := D i) (List.mem_map.2 ⟨i, by simpa using hi, rfl⟩) ?_
            rw [hD]
            simp only [DataW.weights, Try.underlying52]
            exact DataW.weights_mem_each (j := 0) (t := 9) rfl rfl _ (by simp [DataW.weights])
          have h := hw _ (List.mem_cons_of_mem _ (List.mem_append_left _ hm2))
          simpa using h
        · have : ((List.range len).map f).getD i symD = symD := by simp [List.getD, hi]
          unfold sName; rw [this]; exact Nat.zero_le _
    · intro i hi
      have hi' : i < len := by simpa using hi
      obtain ⟨_, _, _, _, h3, h4⟩ := hf i hi'
      unfold sKind sAt
      rw [mk_at _ _ _ _ hi']
      exact ⟨h3, h4⟩
theorem six {cs : Array Value} (h : cs.size = 6) : ∃ a b c d e f, cs = #[a, b, c, d, e, f] := by
  obtain ⟨l⟩ := cs
  match l, h with
  | [a, b, c, d, e, f], _ => exact ⟨a, b, c, d, e, f, rfl⟩
set_option maxRecDepth 100000 in
theorem openObj {H : Type} {enc : TypeId × Value → H} {W : World} {b0 base : Nat} {spare : Nat → Bool} {held : Bool} {v : Value} {d : DataW H} {p : List MemPlace}
    (hv : Value.okWide Try.prog W .any b0 49 v) (h : DataW.Trod enc Try.prog W base spare held 49 v d p) (hw : ∀ n ∈ d.weights Try.prog 49, n ≤ reachBytes) :
    ∃ (nm : ByteArray) (dA : Int) (A1 A2 A3 A4 : Option Addr) (c1 c2 c3 c4 : Nat) (code data : List Int) (ss : List Sym) (rs : List Rel),
      v = .agg #[.string nm, .slice A1 code.length c1, .int .i64 dA, .slice A2 data.length c2, .slice A3 ss.length c3, .slice A4 rs.length c4] ∧
      IntsAt W A1 .u32 code ∧ IntsAt W A2 .i64 data ∧ SymsAt W A3 ss ∧ RelsAt W A4 rs ∧ (∀ i, i < code.length → 0 ≤ nth code i ∧ nth code i < 4294967296) ∧ (∀ i, (sName ss i).size ≤ 140737488355328) ∧ ss.length ≤ 140737488355328 ∧ nm.size ≤ maxLen ∧ (-9223372036854775808 ≤ dA ∧ dA ≤ 9223372036854775807) ∧ (A1 = none → c1 = 0) ∧ (A2 = none → c2 = 0) ∧ (A3 = none → c3 = 0) ∧ (A4 = none → c4 = 0) ∧ (∀ i, i < data.length → -9223372036854775808 ≤ nth data i ∧ nth data i < 9223372036854775808) := by
  obtain ⟨cs, rfl, hsz⟩ := okWide_struct Try.underlying49 hv
  obtain ⟨v0, v1, v2, v3, v4, v5, rfl⟩ := six (hsz.trans (by kernel_rfl))
  obtain ⟨fuel, hf⟩ := h
  obtain ⟨xs, n, _, hdd, _, hlen, hf⟩ := DataW.trod_struct Try.underlying49 hf
  match xs, hlen with
  | [y0, y1, y2, y3, y4, y5], _ =>
    have h0 := hf 0 _ rfl
    have h1 := hf 1 _ rfl
    have h2 := hf 2 _ rfl
    have h3 := hf 3 _ rfl
    have h4 := hf 4 _ rfl
    have h5 := hf 5 _ rfl
    simp [Value.cells, show Try.prog.cellsOf 9 = 1 by kernel_rfl, show Try.prog.cellsOf 44 = 1 by kernel_rfl, show Try.prog.cellsOf 3 = 1 by kernel_rfl, show Try.prog.cellsOf 45 = 1 by kernel_rfl, show Try.prog.cellsOf 46 = 1 by kernel_rfl, show Try.prog.cellsOf 47 = 1 by kernel_rfl] at h0 h1 h2 h3 h4 h5
    obtain ⟨nm, e0, _, hnm⟩ := DataW.trod_string Try.underlying9 h0
    obtain ⟨A1, c1, code, e1, k1, _, r1, u1⟩ := open_i Try.underlying44 Try.underlying78 (by kernel_rfl) h1
    obtain ⟨dA, e2, _, w2⟩ := DataW.trod_int Try.underlying3 h2
    obtain ⟨A2, c2, data, e3, k3, _, r3, u2⟩ := open_i Try.underlying45 Try.underlying2 (by kernel_rfl) h3
    obtain ⟨A3, c3, ss, e4, k4, n4, _, u3⟩ := open_syms h4
    obtain ⟨A4, c4, rs, e5, k5, _, u4⟩ := open_rels h5
    have hw4 : ∀ n ∈ y4.1.weights Try.prog 46, n ≤ reachBytes := fun n hn => by
      refine hw n ?_
      have hd : d = .agg [y0.1, y1.1, y2.1, y3.1, y4.1, y5.1] := congrArg Prod.fst hdd
      rw [hd]
      simp only [DataW.weights, Try.underlying49]
      exact DataW.weights_mem_each (j := 4) (t := 46) rfl rfl n hn
    simp at e0 e1 e2 e3 e4 e5
    subst e0 e1 e2 e3 e4 e5
    refine ⟨nm, dA, A1, A2, A3, A4, c1, c2, c3, c4, code, data, ss, rs, rfl, k1, k3, k4, k5, fun i hi => ?_, ?_, ?_, hnm, ?_, u1, u2, u3, u4, fun i hi => ?_⟩
    · have := r1 i hi
      simp [Lit.wf, IntKind.min, IntKind.max, IntKind.signed, IntKind.bits] at this
      omega
    · intro i
      have := (n4 hw4).2 i
      simp [reachBytes] at this; omega
    · have := (n4 hw4).1
      simp [reachBytes] at this; omega
    · simp [Lit.wf, IntKind.min, IntKind.max, IntKind.signed, IntKind.bits] at w2
      omega
    · have := r3 i hi
      simp [Lit.wf, IntKind.min, IntKind.max, IntKind.signed, IntKind.bits] at this
      omega






end Go.Proofs.Ytiihfkjgdhfmiaa

namespace Go.Proofs.Ytiihfkjgdhfmiaa
open Go.ChangeShapes Go.WideShapes Go.ChangeAt Go.RowKit Go.Joins

/-- What is sure of an object that was handed in. -/
structure OpenO (w : World) (p : Pl) (o : Ob) : Prop where
  cd : IntsAt w p.A1 .u32 o.code
  dt : IntsAt w p.A2 .i64 o.data
  sy : SymsAt w p.A3 o.ss
  rl : RelsAt w p.A4 o.rs
  cr : ∀ i, i < o.code.length → 0 ≤ nth o.code i ∧ nth o.code i < 4294967296
  dr : ∀ i, i < o.data.length → In64 (nth o.data i)
  da : In64 o.dA
  light : LightO o
  r4 : o.rs.length ≤ p.c4
  none : NoneO p
theorem OpenO.inn {w : World} {p : Pl} {o : Ob} (h : OpenO w p o) (hw : wtO o ≤ 524288) : ObIn w p o := by
  unfold wtO at hw
  exact ⟨h.cd, h.dt, h.sy, h.rl, h.cr, h.dr, h.da, by omega, by omega, by omega, by omega, h.light.e, h.r4⟩
theorem weights_str {H : Type} (P : Program) (t : TypeId) (s : List UInt8) : s.length ∈ (DataW.lit (.string s) : DataW H).weights P t := by simp [DataW.weights]
theorem open_len {H : Type} {enc : TypeId × Value → H} {W : World} {base : Nat} {sp : Nat → Bool} {held : Bool} {fuel : Nat} {O : Option Addr} {n cap b : Nat} {x : DataW H × List MemPlace} {t e : TypeId} (ht : Try.prog.underlying t = some (.slice e)) (hb : Try.prog.bytesOf e = b) (h1 : 1 ≤ b)
    (h : DataW.trod enc Try.prog W base sp held fuel t [.slice O n cap] = some x) (hw : ∀ n ∈ x.1.weights Try.prog t, n ≤ reachBytes) : n ≤ 140737488355328 ∧ n ≤ cap := by
  rcases Deep.open_slice ht h with ⟨e0, _⟩ | ⟨a, len, cap', m, n', D, Pl, e0, _, hl, hm, hmm, hxx, hx⟩
  · cases e0
    exact ⟨Nat.zero_le _, Nat.le_refl _⟩
  · cases e0
    subst hxx
    have hu : DataW.weights Try.prog t (.slice ((List.range n).map D) ((List.range (m - n)).map fun j => D (n + j))) = (((List.range n).map D).length + ((List.range (m - n)).map fun j => D (n + j)).length) * Try.prog.bytesOf e :: (DataW.weightsAll Try.prog e ((List.range n).map D) ++ DataW.weightsAll Try.prog e ((List.range (m - n)).map fun j => D (n + j))) := by
      simp only [DataW.weights, ht]
    simp only [hu] at hw
    have h2 := hw _ (List.mem_cons_self ..)
    rw [hb] at h2
    simp only [List.length_map, List.length_range] at h2
    have h3 : (n + (m - n)) * 1 ≤ (n + (m - n)) * b := Nat.mul_le_mul_left _ h1
    have h4 : reachBytes ≤ 140737488355328 := by decide
    exact ⟨by omega, hl⟩
set_option maxRecDepth 100000 in
theorem open_ob {H : Type} {enc : TypeId × Value → H} {W : World} {base : Nat} {sp : Nat → Bool} {held : Bool} {fuel : Nat} {v0 v1 v2 v3 v4 v5 : Value} {x : DataW H × List MemPlace} (h : DataW.trod enc Try.prog W base sp held fuel 49 [v0, v1, v2, v3, v4, v5] = some x) (hw : ∀ n ∈ x.1.weights Try.prog 49, n ≤ reachBytes) :
    ∃ (o : Ob) (p : Pl), (v0 = .string o.nm ∧ v1 = .slice p.A1 o.code.length p.c1 ∧ v2 = .int .i64 o.dA ∧ v3 = .slice p.A2 o.data.length p.c2 ∧ v4 = .slice p.A3 o.ss.length p.c3 ∧ v5 = .slice p.A4 o.rs.length p.c4) ∧ OpenO W p o := by
  obtain ⟨xs, n, _, hdd, _, hlen, hf⟩ := DataW.trod_struct Try.underlying49 h
  match xs, hlen with
  | [y0, y1, y2, y3, y4, y5], _ =>
    have h0 := hf 0 _ rfl
    have h1 := hf 1 _ rfl
    have h2 := hf 2 _ rfl
    have h3 := hf 3 _ rfl
    have h4 := hf 4 _ rfl
    have h5 := hf 5 _ rfl
    simp [show Try.prog.cellsOf 9 = 1 by kernel_rfl, show Try.prog.cellsOf 44 = 1 by kernel_rfl, show Try.prog.cellsOf 3 = 1 by kernel_rfl, show Try.prog.cellsOf 45 = 1 by kernel_rfl, show Try.prog.cellsOf 46 = 1 by kernel_rfl, show Try.prog.cellsOf 47 = 1 by kernel_rfl] at h0 h1 h2 h3 h4 h5
    obtain ⟨nm, e0, ey, _⟩ := DataW.trod_string Try.underlying9 h0
    obtain ⟨A1, c1, code, e1, k1, _, r1, u1⟩ := open_i Try.underlying44 Try.underlying78 (by kernel_rfl) h1
    obtain ⟨dA, e2, _, w2⟩ := DataW.trod_int Try.underlying3 h2
    obtain ⟨A2, c2, data, e3, k3, _, r3, u2⟩ := open_i Try.underlying45 Try.underlying2 (by kernel_rfl) h3
    obtain ⟨A3, c3, ss, e4, k4, n4, _, u3⟩ := open_syms h4
    obtain ⟨A4, c4, rs, e5, k5, _, u4⟩ := open_rels h5
    have hd : x.1 = .agg [y0.1, y1.1, y2.1, y3.1, y4.1, y5.1] := congrArg Prod.fst hdd
    rw [hd] at hw
    simp only [DataW.weights, Try.underlying49] at hw
    have g0 : ∀ n ∈ y0.1.weights Try.prog 9, n ≤ reachBytes := fun n hn => hw n (DataW.weights_mem_each (j := 0) (t := 9) rfl rfl n hn)
    have g1 : ∀ n ∈ y1.1.weights Try.prog 44, n ≤ reachBytes := fun n hn => hw n (DataW.weights_mem_each (j := 1) (t := 44) rfl rfl n hn)
    have g3 : ∀ n ∈ y3.1.weights Try.prog 45, n ≤ reachBytes := fun n hn => hw n (DataW.weights_mem_each (j := 3) (t := 45) rfl rfl n hn)
    have g4 : ∀ n ∈ y4.1.weights Try.prog 46, n ≤ reachBytes := fun n hn => hw n (DataW.weights_mem_each (j := 4) (t := 46) rfl rfl n hn)
    have g5 : ∀ n ∈ y5.1.weights Try.prog 47, n ≤ reachBytes := fun n hn => hw n (DataW.weights_mem_each (j := 5) (t := 47) rfl rfl n hn)
    simp at e0 e1 e2 e3 e4 e5
    subst e0 e1 e2 e3 e4 e5
    have l1 := open_len Try.underlying44 (b := 4) (by kernel_rfl) (by omega) h1 g1
    have l3 := open_len Try.underlying45 (b := 8) (by kernel_rfl) (by omega) h3 g3
    have l4 := open_len Try.underlying46 (b := 32) (by kernel_rfl) (by omega) h4 g4
    have l5 := open_len Try.underlying47 (b := 16) (by kernel_rfl) (by omega) h5 g5
    have hR : reachBytes ≤ 140737488355328 := by decide
    have l0 : nm.size ≤ 140737488355328 := by
      have h7 := g0 nm.data.toList.length (by rw [ey]; exact weights_str _ _ _)
      have h8 : nm.data.toList.length = nm.size := rfl
      omega
    refine ⟨⟨nm, code, dA, data, ss, rs⟩, ⟨A1, A2, A3, A4, c1, c2, c3, c4⟩, ⟨rfl, rfl, rfl, rfl, rfl, rfl⟩, ⟨k1, k3, k4, k5, fun i hi => ?_, fun i hi => ?_, ?_, ⟨l0, l1.1, l3.1, l4.1, l5.1, fun i => Nat.le_trans ((n4 g4).2 i) hR⟩, l5.2, ⟨u1, u2, u3, u4⟩⟩⟩
    · have := r1 i hi
      show 0 ≤ nth code i ∧ nth code i < 4294967296
      simp [Lit.wf, IntKind.min, IntKind.max, IntKind.signed, IntKind.bits] at this
      omega
    · have := r3 i hi
      show In64 (nth data i)
      simp [Lit.wf, IntKind.min, IntKind.max, IntKind.signed, IntKind.bits] at this
      unfold In64
      omega
    · simp [Lit.wf, IntKind.min, IntKind.max, IntKind.signed, IntKind.bits] at w2
      show In64 dA
      unfold In64
      omega
theorem six_list {α : Type} : ∀ {l : List α}, l.length = 6 → ∃ a b c d e f, l = [a, b, c, d, e, f]
  | [a, b, c, d, e, f], _ => ⟨a, b, c, d, e, f, rfl⟩
set_option maxRecDepth 100000 in
theorem openObs {H : Type} {enc : TypeId × Value → H} {W : World} {b0 base : Nat} {spare : Nat → Bool} {held : Bool} {v : Value} {d : DataW H} {p : List MemPlace}
    (hv : Value.okWide Try.prog W .any b0 22 v) (h : DataW.Trod enc Try.prog W base spare held 22 v d p) (hw : ∀ n ∈ d.weights Try.prog 22, n ≤ reachBytes) :
    ∃ (A : Option Addr) (cap : Nat) (q : Nat → Pl) (l : List Ob), v = .slice A l.length cap ∧ ObsAt W A q l ∧ ∀ i, i < l.length → OpenO W (q i) (ob l i) := by
  obtain ⟨a0, len0, c0, rfl⟩ := okWide_slice Try.underlying22 hv
  obtain ⟨fuel, hf⟩ := h
  rcases Deep.open_slice Try.underlying22 hf with ⟨e0, _⟩ | ⟨a, len, cap, m, n, D, Pl, e0, _, hl, hm, hmm, hxx, hx⟩
  · have e1 : (Value.slice a0 len0 c0) = .slice none 0 0 := by simpa [Value.cells] using e0
    exact ⟨none, 0, fun _ => plD, [], e1, fun i hi => by simp at hi, fun i hi => by simp at hi⟩
  · have e1 : (Value.slice a0 len0 c0) = .slice (some a) len cap := by simpa [Value.cells] using e0
    have hlm : len ≤ m := by rw [hmm]; split <;> omega
    have hd : d = .slice ((List.range len).map D) ((List.range (m - len)).map fun j => D (len + j)) := congrArg Prod.fst hxx
    subst hd
    have hu : DataW.weights Try.prog 22 (.slice ((List.range len).map D) ((List.range (m - len)).map fun j => D (len + j))) = (((List.range len).map D).length + ((List.range (m - len)).map fun j => D (len + j)).length) * Try.prog.bytesOf 49 :: (DataW.weightsAll Try.prog 49 ((List.range len).map D) ++ DataW.weightsAll Try.prog 49 ((List.range (m - len)).map fun j => D (len + j))) := by
      simp only [DataW.weights, Try.underlying22]
    simp only [hu] at hw
    have each : ∀ i, ∃ op : Ob × Go.Proofs.Ytiihfkjgdhfmiaa.Pl, i < len → (W.cell? (a.add (i * 6)) = some (.string op.1.nm) ∧ W.cell? ((a.add (i * 6)).add 1) = some (.slice op.2.A1 op.1.code.length op.2.c1) ∧ W.cell? ((a.add (i * 6)).add 2) = some (.int .i64 op.1.dA) ∧ W.cell? ((a.add (i * 6)).add 3) = some (.slice op.2.A2 op.1.data.length op.2.c2) ∧ W.cell? ((a.add (i * 6)).add 4) = some (.slice op.2.A3 op.1.ss.length op.2.c3) ∧ W.cell? ((a.add (i * 6)).add 5) = some (.slice op.2.A4 op.1.rs.length op.2.c4)) ∧ OpenO W op.2 op.1 := by
      intro i
      by_cases hi : i < len
      · obtain ⟨cs', h1, h2⟩ := hx i (by omega)
        rw [show Try.prog.cellsOf 49 = 6 by kernel_rfl] at h1
        obtain ⟨_, hlen, hcell⟩ := World.cells?_some h1
        obtain ⟨v0, v1, v2, v3, v4, v5, rfl⟩ := six_list hlen
        have q0 := hcell 0 (by omega)
        have q1 := hcell 1 (by omega)
        have q2 := hcell 2 (by omega)
        have q3 := hcell 3 (by omega)
        have q4 := hcell 4 (by omega)
        have q5 := hcell 5 (by omega)
        obtain ⟨o, p, ⟨e0, e1, e2, e3, e4, e5⟩, hO⟩ := open_ob h2 (fun n hn => hw n (List.mem_cons_of_mem _ (List.mem_append_left _ (mem_all (d := D i) (List.mem_map.2 ⟨i, by simpa using hi, rfl⟩) hn))))
        subst e0 e1 e2 e3 e4 e5
        exact ⟨(o, p), fun _ => ⟨⟨by rw [Deep.add_add] at q0; simpa using q0, by simpa using q1, by simpa using q2, by simpa using q3, by simpa using q4, by simpa using q5⟩, hO⟩⟩
      · exact ⟨(obD, plD), fun h => absurd h hi⟩
    obtain ⟨f, hf⟩ := Classical.axiomOfChoice each
    have hob : ∀ i, i < len → ob ((List.range len).map fun i => (f i).1) i = (f i).1 := fun i hi => mk_at _ _ _ _ hi
    refine ⟨some a, cap, fun i => (f i).2, (List.range len).map fun i => (f i).1, by rw [e1]; simp, fun i hi => ?_, fun i hi => ?_⟩
    · have hi' : i < len := by simpa using hi
      rw [hob i hi']
      exact ⟨a, rfl, (hf i hi').1⟩
    · have hi' : i < len := by simpa using hi
      rw [hob i hi']
      exact (hf i hi').2



end Go.Proofs.Ytiihfkjgdhfmiaa

namespace Go.Proofs.Ytiihfkjgdhfmiaa
open Go.RowKit

/-- The first of what a function gives below a number. -/
def fstN {β : Type} (f : Nat → Option β) : Nat → Option β
  | 0 => none
  | n + 1 => match fstN f n with
    | some b => some b
    | none => f n
theorem fst_none {β : Type} {f : Nat → Option β} : ∀ {n : Nat}, (∀ j, j < n → f j = none) → fstN f n = none
  | 0, _ => rfl
  | n + 1, h => by
    rw [fstN, fst_none (fun j hj => h j (by omega))]
    exact h n (by omega)
theorem fst_hit {β : Type} {f : Nat → Option β} {k : Nat} {b : β} (h : ∀ j, j < k → f j = none) (e : f k = some b) : ∀ {n : Nat}, k < n → fstN f n = some b
  | 0, hk => absurd hk (Nat.not_lt_zero _)
  | n + 1, hk => by
    rw [fstN]
    by_cases hn : k < n
    · rw [fst_hit h e hn]
    · obtain rfl : k = n := by omega
      rw [fst_none h]
      exact e
theorem fst_step {β : Type} {f : Nat → Option β} {k : Nat} (h : ∀ j, j < k → f j = none) (e : f k = none) : ∀ j, j < k + 1 → f j = none := fun j hj => by
  by_cases he : j = k
  · rw [he]; exact e
  · exact h j (by omega)
theorem fst_some {β : Type} {f : Nat → Option β} {b : β} : ∀ {n : Nat}, fstN f n = some b → ∃ k, k < n ∧ f k = some b ∧ ∀ j, j < k → f j = none
  | 0, h => by cases h
  | n + 1, h => by
    rw [fstN] at h
    cases hf : fstN f n with
    | some c =>
      rw [hf] at h
      obtain ⟨k, hk, h1, h2⟩ := fst_some hf
      cases h
      exact ⟨k, by omega, h1, h2⟩
    | none =>
      rw [hf] at h
      exact ⟨n, by omega, h, fun j hj => by
        cases hj' : f j with
        | none => rfl
        | some c =>
          exfalso
          have := fst_no hf j hj
          rw [hj'] at this
          cases this⟩
where fst_no {β : Type} {f : Nat → Option β} : ∀ {n : Nat}, fstN f n = none → ∀ j, j < n → f j = none
  | 0, _, j, hj => absurd hj (Nat.not_lt_zero _)
  | n + 1, h, j, hj => by
    rw [fstN] at h
    cases hf : fstN f n with
    | some c => rw [hf] at h; cases h
    | none =>
      rw [hf] at h
      by_cases he : j = n
      · rw [he]; exact h
      · exact fst_no hf j (by omega)
theorem fst_no {β : Type} {f : Nat → Option β} {n : Nat} (h : fstN f n = none) (j : Nat) (hj : j < n) : f j = none := fst_some.fst_no h j hj
/-- A symbol of a name and kind. -/
def hitS (nm : ByteArray) (kd : Int) (ss : List Sym) (k : Nat) : Option Int := if ((sName ss k).toList == nm.toList) = true ∧ (sKind ss k == kd) = true then some (sAt ss k) else none
def rowF (nm : ByteArray) (kd : Int) (ss : List Sym) (n : Nat) : Option Int := fstN (hitS nm kd ss) n
/-- How many symbols of an object are looked at, below a place. -/
def upTo (l : List Ob) (o s i : Nat) : Nat := if i = o then min s (ob l i).ss.length else (ob l i).ss.length
def hitO (nm : ByteArray) (kd : Int) (l : List Ob) (o s i : Nat) : Option (Nat × Int) := (rowF nm kd (ob l i).ss (upTo l o s i)).map fun a => (i, a)
/-- The first symbol of a name and kind below a place. -/
def firstF (nm : ByteArray) (kd : Int) (l : List Ob) (o s : Nat) : Option (Nat × Int) := fstN (hitO nm kd l o s) (min l.length (o + 1))
/-- What a name stands for. -/
def findF (nm : ByteArray) (l : List Ob) : Option (Nat × Int) := match firstF nm 1 l l.length 0 with
  | some x => some x
  | none => firstF nm 2 l l.length 0
def dfI : Option (Nat × Int) → Nat
  | some x => x.1
  | none => 0
def dfA : Option (Nat × Int) → Int
  | some x => x.2
  | none => 0
/-- An answer of first, of Find. -/
def DefP (x : Option (Nat × Int)) (w : World) (e : Ending) (w' : World) : Prop := e = .returned (.tuple #[.agg #[.int .i64 (dfI x), .int .i64 (dfA x)], .bool x.isSome]) ∧ Below w.heap.size w w'
theorem hitS_no {nm : ByteArray} {kd : Int} {ss : List Sym} {k : Nat} (h : ((sName ss k).toList == nm.toList) = false ∨ (sKind ss k == kd) = false) : hitS nm kd ss k = none := by
  unfold hitS
  rw [if_neg]
  rintro ⟨h1, h2⟩
  rcases h with h | h
  · rw [h1] at h; cases h
  · rw [h2] at h; cases h
theorem hitS_yes {nm : ByteArray} {kd : Int} {ss : List Sym} {k : Nat} (h : ((sName ss k).toList == nm.toList) = true) (h2 : (sKind ss k == kd) = true) : hitS nm kd ss k = some (sAt ss k) := by
  unfold hitS
  rw [if_pos ⟨h, h2⟩]
theorem hitO_no {nm : ByteArray} {kd : Int} {l : List Ob} {o s i k : Nat} (h : ∀ j, j < k → hitS nm kd (ob l i).ss j = none) (hk : upTo l o s i ≤ k) : hitO nm kd l o s i = none := by
  unfold hitO rowF
  rw [fst_none (fun j hj => h j (by omega))]
  rfl
theorem hitO_yes {nm : ByteArray} {kd : Int} {l : List Ob} {o s i k : Nat} {a : Int} (h : ∀ j, j < k → hitS nm kd (ob l i).ss j = none) (e : hitS nm kd (ob l i).ss k = some a) (hk : k < upTo l o s i) : hitO nm kd l o s i = some (i, a) := by
  unfold hitO rowF
  rw [fst_hit h e hk]
  rfl


end Go.Proofs.Ytiihfkjgdhfmiaa
