/-
  What a list of objects that is handed in is. The marks behind a list of numbers, looked at by the document's helpers: true where they stand; the list is at most 2^20 long. The marks behind a list of symbols, of relocations, looked at by the document's helpers: true where they stand; the list is at most 2^20 long. The marks behind an object's lists, looked at by the document's helper: true where they stand; the lists are at most 2^20 long.
-/
import Derived.Test.YtbckolkgncajfaaGreatDoorProg
import Derived.WalkKit
import Derived.WalkSpells
import Derived.WalkLawsBesides
import Derived.RowKit3
import Derived.Below
import Derived.Deep.QuietTactic
import Derived.BigQuiet
import Derived.WalkSmall
import Derived.Laws.Rows
import Derived.Test.YtbckolkgncajfaaGreatDoorLo37
import Derived.Test.YtbckolkgncajfaaGreatDoorLo39
import Derived.Test.YtbckolkgncajfaaGreatDoorLo02
import Derived.Test.YtbckolkgncajfaaGreatDoorLo19
namespace Go.Proofs.YtbckolkgncajfaaGreatDoor
open Go.ChangeShapes Go.WideShapes Go.ChangeAt Go.RowKit Go.Joins

/-- What is sure of an object that was handed in. -/
structure OpenO (w : World) (p : Pl) (o : Ob) : Prop where
  cd : IntsAt w p.A1 .u32 o.code
  dt : IntsAt w p.A2 .i64 o.data
  sy : SymsAt w p.A3 o.ss
  rl : RelsAt w p.A4 o.rs
  cr : ∀ i, i < o.code.length → 0 ≤ nth o.code i ∧ nth o.code i < 4294967296
  dr : ∀ i, i < o.data.length → In64 (nth o.data i)
  da : In64 o.dA
  light : LightO o
  r4 : o.rs.length ≤ p.c4
  none : NoneO p
theorem OpenO.inn {w : World} {p : Pl} {o : Ob} (h : OpenO w p o) (hw : wtO o ≤ 262144) : ObIn w p o := by
  unfold wtO at hw
  exact ⟨h.cd, h.dt, h.sy, h.rl, h.cr, h.dr, h.da, by omega, by omega, by omega, by omega, h.light.e, h.r4⟩
theorem weights_str {H : Type} (P : Program) (t : TypeId) (s : List UInt8) : s.length ∈ (DataW.lit (.string s) : DataW H).weights P t := by simp [DataW.weights]
theorem open_len {H : Type} {enc : TypeId × Value → H} {W : World} {base : Nat} {sp : Nat → Bool} {held : Bool} {fuel : Nat} {O : Option Addr} {n cap b : Nat} {x : DataW H × List MemPlace} {t e : TypeId} (ht : Tryz.prog.underlying t = some (.slice e)) (hb : Tryz.prog.bytesOf e = b) (h1 : 1 ≤ b)
    (h : DataW.trod enc Tryz.prog W base sp held fuel t [.slice O n cap] = some x) (hw : ∀ n ∈ x.1.weights Tryz.prog t, n ≤ reachBytes) : n ≤ 140737488355328 ∧ n ≤ cap := by
  rcases Deep.open_slice ht h with ⟨e0, _⟩ | ⟨a, len, cap', m, n', D, Pl, e0, _, hl, hm, hmm, hxx, hx⟩
  · cases e0
    exact ⟨Nat.zero_le _, Nat.le_refl _⟩
  · cases e0
    subst hxx
    have hu : DataW.weights Tryz.prog t (.slice ((List.range n).map D) ((List.range (m - n)).map fun j => D (n + j))) = (((List.range n).map D).length + ((List.range (m - n)).map fun j => D (n + j)).length) * Tryz.prog.bytesOf e :: (DataW.weightsAll Tryz.prog e ((List.range n).map D) ++ DataW.weightsAll Tryz.prog e ((List.range (m - n)).map fun j => D (n + j))) := by
      simp only [DataW.weights, ht]
    simp only [hu] at hw
    have h2 := hw _ (List.mem_cons_self ..)
    rw [hb] at h2
    simp only [List.length_map, List.length_range] at h2
    have h3 : (n + (m - n)) * 1 ≤ (n + (m - n)) * b := Nat.mul_le_mul_left _ h1
    have h4 : reachBytes ≤ 140737488355328 := by decide
    exact ⟨by omega, hl⟩
set_option maxRecDepth 100000 in
theorem open_ob {H : Type} {enc : TypeId × Value → H} {W : World} {base : Nat} {sp : Nat → Bool} {held : Bool} {fuel : Nat} {v0 v1 v2 v3 v4 v5 : Value} {x : DataW H × List MemPlace} (h : DataW.trod enc Tryz.prog W base sp held fuel 65 [v0, v1, v2, v3, v4, v5] = some x) (hw : ∀ n ∈ x.1.weights Tryz.prog 65, n ≤ reachBytes) :
    ∃ (o : Ob) (p : Pl), (v0 = .string o.nm ∧ v1 = .slice p.A1 o.code.length p.c1 ∧ v2 = .int .i64 o.dA ∧ v3 = .slice p.A2 o.data.length p.c2 ∧ v4 = .slice p.A3 o.ss.length p.c3 ∧ v5 = .slice p.A4 o.rs.length p.c4) ∧ OpenO W p o := by
  obtain ⟨xs, n, _, hdd, _, hlen, hf⟩ := DataW.trod_struct Tryz.underlying65 h
  match xs, hlen with
  | [y0, y1, y2, y3, y4, y5], _ =>
    have h0 := hf 0 _ rfl
    have h1 := hf 1 _ rfl
    have h2 := hf 2 _ rfl
    have h3 := hf 3 _ rfl
    have h4 := hf 4 _ rfl
    have h5 := hf 5 _ rfl
    simp [show Tryz.prog.cellsOf 9 = 1 by kernel_rfl, show Tryz.prog.cellsOf 22 = 1 by kernel_rfl, show Tryz.prog.cellsOf 3 = 1 by kernel_rfl, show Tryz.prog.cellsOf 61 = 1 by kernel_rfl, show Tryz.prog.cellsOf 62 = 1 by kernel_rfl, show Tryz.prog.cellsOf 63 = 1 by kernel_rfl] at h0 h1 h2 h3 h4 h5
    obtain ⟨nm, e0, ey, _⟩ := DataW.trod_string Tryz.underlying9 h0
    obtain ⟨A1, c1, code, e1, k1, _, r1, u1⟩ := open_i Tryz.underlying22 Tryz.underlying31 (by kernel_rfl) h1
    obtain ⟨dA, e2, _, w2⟩ := DataW.trod_int Tryz.underlying3 h2
    obtain ⟨A2, c2, data, e3, k3, _, r3, u2⟩ := open_i Tryz.underlying61 Tryz.underlying2 (by kernel_rfl) h3
    obtain ⟨A3, c3, ss, e4, k4, n4, _, u3⟩ := open_syms h4
    obtain ⟨A4, c4, rs, e5, k5, _, u4⟩ := open_rels h5
    have hd : x.1 = .agg [y0.1, y1.1, y2.1, y3.1, y4.1, y5.1] := congrArg Prod.fst hdd
    rw [hd] at hw
    simp only [DataW.weights, Tryz.underlying65] at hw
    have g0 : ∀ n ∈ y0.1.weights Tryz.prog 9, n ≤ reachBytes := fun n hn => hw n (DataW.weights_mem_each (j := 0) (t := 9) rfl rfl n hn)
    have g1 : ∀ n ∈ y1.1.weights Tryz.prog 22, n ≤ reachBytes := fun n hn => hw n (DataW.weights_mem_each (j := 1) (t := 22) rfl rfl n hn)
    have g3 : ∀ n ∈ y3.1.weights Tryz.prog 61, n ≤ reachBytes := fun n hn => hw n (DataW.weights_mem_each (j := 3) (t := 61) rfl rfl n hn)
    have g4 : ∀ n ∈ y4.1.weights Tryz.prog 62, n ≤ reachBytes := fun n hn => hw n (DataW.weights_mem_each (j := 4) (t := 62) rfl rfl n hn)
    have g5 : ∀ n ∈ y5.1.weights Tryz.prog 63, n ≤ reachBytes := fun n hn => hw n (DataW.weights_mem_each (j := 5) (t := 63) rfl rfl n hn)
    simp at e0 e1 e2 e3 e4 e5
    subst e0 e1 e2 e3 e4 e5
    have l1 := open_len Tryz.underlying22 (b := 4) (by kernel_rfl) (by omega) h1 g1
    have l3 := open_len Tryz.underlying61 (b := 8) (by kernel_rfl) (by omega) h3 g3
    have l4 := open_len Tryz.underlying62 (b := 32) (by kernel_rfl) (by omega) h4 g4
    have l5 := open_len Tryz.underlying63 (b := 16) (by kernel_rfl) (by omega) h5 g5
    have hR : reachBytes ≤ 140737488355328 := by decide
    have l0 : nm.size ≤ 140737488355328 := by
      have h7 := g0 nm.data.toList.length (by rw [ey]; exact weights_str _ _ _)
      have h8 : nm.data.toList.length = nm.size := rfl
      omega
    refine ⟨⟨nm, code, dA, data, ss, rs⟩, ⟨A1, A2, A3, A4, c1, c2, c3, c4⟩, ⟨rfl, rfl, rfl, rfl, rfl, rfl⟩, ⟨k1, k3, k4, k5, fun i hi => ?_, fun i hi => ?_, ?_, ⟨l0, l1.1, l3.1, l4.1, l5.1, fun i => Nat.le_trans ((n4 g4).2 i) hR⟩, l5.2, ⟨u1, u2, u3, u4⟩⟩⟩
    · have := r1 i hi
      show 0 ≤ nth code i ∧ nth code i < 4294967296
      simp [Lit.wf, IntKind.min, IntKind.max, IntKind.signed, IntKind.bits] at this
      omega
    · have := r3 i hi
      show In64 (nth data i)
      simp [Lit.wf, IntKind.min, IntKind.max, IntKind.signed, IntKind.bits] at this
      unfold In64
      omega
    · simp [Lit.wf, IntKind.min, IntKind.max, IntKind.signed, IntKind.bits] at w2
      show In64 dA
      unfold In64
      omega
theorem six_list {α : Type} : ∀ {l : List α}, l.length = 6 → ∃ a b c d e f, l = [a, b, c, d, e, f]
  | [a, b, c, d, e, f], _ => ⟨a, b, c, d, e, f, rfl⟩
set_option maxRecDepth 100000 in
theorem openObs {H : Type} {enc : TypeId × Value → H} {W : World} {b0 base : Nat} {spare : Nat → Bool} {held : Bool} {v : Value} {d : DataW H} {p : List MemPlace}
    (hv : Value.okWide Tryz.prog W .any b0 53 v) (h : DataW.Trod enc Tryz.prog W base spare held 53 v d p) (hw : ∀ n ∈ d.weights Tryz.prog 53, n ≤ reachBytes) :
    ∃ (A : Option Addr) (cap : Nat) (q : Nat → Pl) (l : List Ob), v = .slice A l.length cap ∧ ObsAt W A q l ∧ ∀ i, i < l.length → OpenO W (q i) (ob l i) := by
  obtain ⟨a0, len0, c0, rfl⟩ := okWide_slice Tryz.underlying53 hv
  obtain ⟨fuel, hf⟩ := h
  rcases Deep.open_slice Tryz.underlying53 hf with ⟨e0, _⟩ | ⟨a, len, cap, m, n, D, Pl, e0, _, hl, hm, hmm, hxx, hx⟩
  · have e1 : (Value.slice a0 len0 c0) = .slice none 0 0 := by simpa [Value.cells] using e0
    exact ⟨none, 0, fun _ => plD, [], e1, fun i hi => by simp at hi, fun i hi => by simp at hi⟩
  · have e1 : (Value.slice a0 len0 c0) = .slice (some a) len cap := by simpa [Value.cells] using e0
    have hlm : len ≤ m := by rw [hmm]; split <;> omega
    have hd : d = .slice ((List.range len).map D) ((List.range (m - len)).map fun j => D (len + j)) := congrArg Prod.fst hxx
    subst hd
    have hu : DataW.weights Tryz.prog 53 (.slice ((List.range len).map D) ((List.range (m - len)).map fun j => D (len + j))) = (((List.range len).map D).length + ((List.range (m - len)).map fun j => D (len + j)).length) * Tryz.prog.bytesOf 65 :: (DataW.weightsAll Tryz.prog 65 ((List.range len).map D) ++ DataW.weightsAll Tryz.prog 65 ((List.range (m - len)).map fun j => D (len + j))) := by
      simp only [DataW.weights, Tryz.underlying53]
    simp only [hu] at hw
    have each : ∀ i, ∃ op : Ob × Go.Proofs.YtbckolkgncajfaaGreatDoor.Pl, i < len → (W.cell? (a.add (i * 6)) = some (.string op.1.nm) ∧ W.cell? ((a.add (i * 6)).add 1) = some (.slice op.2.A1 op.1.code.length op.2.c1) ∧ W.cell? ((a.add (i * 6)).add 2) = some (.int .i64 op.1.dA) ∧ W.cell? ((a.add (i * 6)).add 3) = some (.slice op.2.A2 op.1.data.length op.2.c2) ∧ W.cell? ((a.add (i * 6)).add 4) = some (.slice op.2.A3 op.1.ss.length op.2.c3) ∧ W.cell? ((a.add (i * 6)).add 5) = some (.slice op.2.A4 op.1.rs.length op.2.c4)) ∧ OpenO W op.2 op.1 := by
      intro i
      by_cases hi : i < len
      · obtain ⟨cs', h1, h2⟩ := hx i (by omega)
        rw [show Tryz.prog.cellsOf 65 = 6 by kernel_rfl] at h1
        obtain ⟨_, hlen, hcell⟩ := World.cells?_some h1
        obtain ⟨v0, v1, v2, v3, v4, v5, rfl⟩ := six_list hlen
        have q0 := hcell 0 (by omega)
        have q1 := hcell 1 (by omega)
        have q2 := hcell 2 (by omega)
        have q3 := hcell 3 (by omega)
        have q4 := hcell 4 (by omega)
        have q5 := hcell 5 (by omega)
        obtain ⟨o, p, ⟨e0, e1, e2, e3, e4, e5⟩, hO⟩ := open_ob h2 (fun n hn => hw n (List.mem_cons_of_mem _ (List.mem_append_left _ (mem_all (d := D i) (List.mem_map.2 ⟨i, by simpa using hi, rfl⟩) hn))))
        subst e0 e1 e2 e3 e4 e5
        exact ⟨(o, p), fun _ => ⟨⟨by rw [Deep.add_add] at q0; simpa using q0, by simpa using q1, by simpa using q2, by simpa using q3, by simpa using q4, by simpa using q5⟩, hO⟩⟩
      · exact ⟨(obD, plD), fun h => absurd h hi⟩
    obtain ⟨f, hf⟩ := Classical.axiomOfChoice each
    have hob : ∀ i, i < len → ob ((List.range len).map fun i => (f i).1) i = (f i).1 := fun i hi => mk_at _ _ _ _ hi
    refine ⟨some a, cap, fun i => (f i).2, (List.range len).map fun i => (f i).1, by rw [e1]; simp, fun i hi => ?_, fun i hi => ?_⟩
    · have hi' : i < len := by simpa using hi
      rw [hob i hi']
      exact ⟨a, rfl, (hf i hi').1⟩
    · have hi' : i < len := by simpa using hi
      rw [hob i hi']
      exact (hf i hi').2

end Go.Proofs.YtbckolkgncajfaaGreatDoor

namespace Go.Proofs.YtbckolkgncajfaaGreatDoor
open Go.RowKit

set_option maxRecDepth 100000 in
set_option maxHeartbeats 1000000 in
theorem sparewords_any (g n : Nat) (w : World) (hA : ∀ i, n ≤ i → i < n + 64 → w.cell? ⟨g, i, none⟩ = some (.int .u32 (9437184 + i + 1))) (hz : n ≤ 1048576) :
    Calls Tryz.prog 11 #[.slice (some ⟨g, 0, none⟩) n (n + 64)] w fun e w' => e = .returned (.bool true) ∧ w' = w := by
  go_enter Tryz.func11, Tryz.ntmps11
  go_wp2
  go_loop [4] (fun i => ∃ k : Nat, i = .int .i64 k ∧ n ≤ k ∧ k ≤ n + 64) (fun i => n + 64 - (intOf i).toNat)
  case atStart => exact ⟨n, rfl, by omega, by omega⟩
  case round =>
    obtain ⟨k, rfl, hk, hk2⟩ := hrel
    by_cases hlt : k < n + 64
    · have c := hA k hk hlt
      go_wp2_with fail
      refine (num_any 9 k (by omega) (by omega) (by omega) (by omega) _).mono ?_
      rintro e w1 ⟨rfl, rfl⟩
      go_wp2
      go_round
      case rel => exact ⟨k + 1, by go_num, by omega, by omega⟩
      case measure => simp [intOf]; omega
    · go_wp2
      go_ret
      exact ⟨rfl, rfl⟩

set_option maxRecDepth 100000 in
set_option maxHeartbeats 1000000 in
theorem sparelongs_any (g n : Nat) (w : World) (hA : ∀ i, n ≤ i → i < n + 64 → w.cell? ⟨g, i, none⟩ = some (.int .i64 (9437184 + i + 1))) (hz : n ≤ 1048576) :
    Calls Tryz.prog 77 #[.slice (some ⟨g, 0, none⟩) n (n + 64)] w fun e w' => e = .returned (.bool true) ∧ w' = w := by
  go_enter Tryz.func77, Tryz.ntmps77
  go_wp2
  go_loop [4] (fun i => ∃ k : Nat, i = .int .i64 k ∧ n ≤ k ∧ k ≤ n + 64) (fun i => n + 64 - (intOf i).toNat)
  case atStart => exact ⟨n, rfl, by omega, by omega⟩
  case round =>
    obtain ⟨k, rfl, hk, hk2⟩ := hrel
    by_cases hlt : k < n + 64
    · have c := hA k hk hlt
      go_wp2_with fail
      refine (num_any 9 k (by omega) (by omega) (by omega) (by omega) _).mono ?_
      rintro e w1 ⟨rfl, rfl⟩
      go_wp2
      go_round
      case rel => exact ⟨k + 1, by go_num, by omega, by omega⟩
      case measure => simp [intOf]; omega
    · go_wp2
      go_ret
      exact ⟨rfl, rfl⟩
set_option maxRecDepth 100000 in
set_option maxHeartbeats 1000000 in
theorem sparerel_any (g n : Nat) (w : World) (hA : ∀ i, n ≤ i → i < n + 64 → w.cell? ⟨g, i * 2, none⟩ = some (.int .i64 (9437184 + i + 1)) ∧ w.cell? ⟨g, i * 2 + 1, none⟩ = some (.int .i64 0)) (hz : n ≤ 1048576) :
    Calls Tryz.prog 79 #[.slice (some ⟨g, 0, none⟩) n (n + 64)] w fun e w' => e = .returned (.bool true) ∧ Below w.heap.size w w' := by
  go_enter Tryz.func79, Tryz.ntmps79
  go_wp2
  go_loopw [4] (fun i wr => ∃ k : Nat, i = .int .i64 k ∧ n ≤ k ∧ k ≤ n + 64 ∧ Below w.heap.size w wr) (fun i _ => n + 64 - (intOf i).toNat)
  case atStart => exact ⟨n, rfl, by omega, by omega, Below.refl _ _⟩
  case round =>
    obtain ⟨k, rfl, hk, hk2, hB⟩ := hrel
    rename_i wr _
    by_cases hlt : k < n + 64
    · obtain ⟨c0, c1⟩ := hA k hk hlt
      replace c0 := lkeep hB c0
      replace c1 := lkeep hB c1
      have HB : Hid (Below w.heap.size w _) := hB
      clear hB
      go_wp2_with fail
      go_quiet ((go_at_call 24; exact Calls.quiet_of_same (num_any _ _ (by omega) (by omega) (by omega) (by omega) _)))
      go_wp2
      go_roundw
      case rel => exact ⟨k + 1, by go_num, by omega, by omega, below_drewN (lb_alloc HB.out _) _⟩
      case measure => simp [intOf]; omega
    · go_wp2
      go_ret
      exact ⟨rfl, hB⟩

set_option maxRecDepth 100000 in
set_option maxHeartbeats 1000000 in
theorem sparesym_any (g n : Nat) (w : World) (hA : ∀ i, n ≤ i → i < n + 64 → w.cell? ⟨g, i * 3, none⟩ = some (.string ⟨#[]⟩) ∧ w.cell? ⟨g, i * 3 + 1, none⟩ = some (.int .i8 0) ∧ w.cell? ⟨g, i * 3 + 2, none⟩ = some (.int .i64 (9437184 + i + 1))) (hz : n ≤ 1048576) :
    Calls Tryz.prog 78 #[.slice (some ⟨g, 0, none⟩) n (n + 64)] w fun e w' => e = .returned (.bool true) ∧ Below w.heap.size w w' := by
  go_enter Tryz.func78, Tryz.ntmps78
  go_wp2
  go_loopw [4] (fun i wr => ∃ k : Nat, i = .int .i64 k ∧ n ≤ k ∧ k ≤ n + 64 ∧ Below w.heap.size w wr) (fun i _ => n + 64 - (intOf i).toNat)
  case atStart => exact ⟨n, rfl, by omega, by omega, Below.refl _ _⟩
  case round =>
    obtain ⟨k, rfl, hk, hk2, hB⟩ := hrel
    rename_i wr _
    by_cases hlt : k < n + 64
    · obtain ⟨c0, c1, c2⟩ := hA k hk hlt
      replace c0 := lkeep hB c0
      replace c1 := lkeep hB c1
      replace c2 := lkeep hB c2
      have HB : Hid (Below w.heap.size w _) := hB
      clear hB
      go_wp2_with fail
      go_quiet ((go_at_call 24; exact Calls.quiet_of_same (num_any _ _ (by omega) (by omega) (by omega) (by omega) _)))
      go_wp2
      go_roundw
      case rel => exact ⟨k + 1, by go_num, by omega, by omega, below_drewN (lb_alloc HB.out _) _⟩
      case measure => simp [intOf]; omega
    · go_wp2
      go_ret
      exact ⟨rfl, hB⟩
def MarkI (w : World) (K : IntKind) (g n : Nat) : Prop := ∀ i, n ≤ i → i < n + 64 → w.cell? ⟨g, i, none⟩ = some (.int K (9437184 + i + 1))
def MarkS (w : World) (g n : Nat) : Prop := ∀ i, n ≤ i → i < n + 64 → w.cell? ⟨g, i * 3, none⟩ = some (.string ⟨#[]⟩) ∧ w.cell? ⟨g, i * 3 + 1, none⟩ = some (.int .i8 0) ∧ w.cell? ⟨g, i * 3 + 2, none⟩ = some (.int .i64 (9437184 + i + 1))
def MarkR (w : World) (g n : Nat) : Prop := ∀ i, n ≤ i → i < n + 64 → w.cell? ⟨g, i * 2, none⟩ = some (.int .i64 (9437184 + i + 1)) ∧ w.cell? ⟨g, i * 2 + 1, none⟩ = some (.int .i64 0)
theorem MarkI.keep {w w1 : World} {K : IntKind} {g n : Nat} (h : MarkI w K g n) (hb : Below w.heap.size w w1) : MarkI w1 K g n := fun i a b => lkeep hb (h i a b)
theorem MarkS.keep {w w1 : World} {g n : Nat} (h : MarkS w g n) (hb : Below w.heap.size w w1) : MarkS w1 g n := fun i a b => ⟨lkeep hb (h i a b).1, lkeep hb (h i a b).2.1, lkeep hb (h i a b).2.2⟩
theorem MarkR.keep {w w1 : World} {g n : Nat} (h : MarkR w g n) (hb : Below w.heap.size w w1) : MarkR w1 g n := fun i a b => ⟨lkeep hb (h i a b).1, lkeep hb (h i a b).2⟩
set_option maxRecDepth 100000 in
set_option maxHeartbeats 2000000 in
theorem spareobj_any (nm : ByteArray) (dA : Int) (g1 n1 g2 n2 g3 n3 g4 n4 : Nat) (w : World) (m1 : MarkI w .u32 g1 n1) (m2 : MarkI w .i64 g2 n2) (m3 : MarkS w g3 n3) (m4 : MarkR w g4 n4) (b1 : n1 ≤ 1048576) (b2 : n2 ≤ 1048576) (b3 : n3 ≤ 1048576) (b4 : n4 ≤ 1048576) :
    Calls Tryz.prog 50 #[.agg #[.string nm, .slice (some ⟨g1, 0, none⟩) n1 (n1 + 64), .int .i64 dA, .slice (some ⟨g2, 0, none⟩) n2 (n2 + 64), .slice (some ⟨g3, 0, none⟩) n3 (n3 + 64), .slice (some ⟨g4, 0, none⟩) n4 (n4 + 64)]] w fun e w' => e = .returned (.bool true) ∧ Below w.heap.size w w' := by
  go_enter Tryz.func50, Tryz.ntmps50
  go_wp2_with fail
  refine (sparewords_any g1 n1 _ (m1.keep (lb_alloc (Below.refl _ _) _)) b1).mono ?_
  rintro e w0 ⟨rfl, rfl⟩
  go_wp2_with fail
  refine (sparelongs_any g2 n2 _ (m2.keep (lb_alloc (Below.refl _ _) _)) b2).mono ?_
  rintro e w1 ⟨rfl, rfl⟩
  go_wp2_with fail
  refine (sparesym_any g3 n3 _ (m3.keep (lb_alloc (Below.refl _ _) _)) b3).mono ?_
  rintro e w2 ⟨rfl, hb2⟩
  have HB2 : Hid (Below w.heap.size w w2) := lb_trans (lb_alloc (Below.refl _ _) _) hb2
  have q20 : w2.cell? ⟨w.heap.size, 0, none⟩ = some (.string nm) := lkeep hb2 (by simp [go_sem])
  have q21 : w2.cell? ⟨w.heap.size, 1, none⟩ = some (.slice (some ⟨g1, 0, none⟩) n1 (n1 + 64)) := lkeep hb2 (by simp [go_sem])
  have q22 : w2.cell? ⟨w.heap.size, 2, none⟩ = some (.int .i64 dA) := lkeep hb2 (by simp [go_sem])
  have q23 : w2.cell? ⟨w.heap.size, 3, none⟩ = some (.slice (some ⟨g2, 0, none⟩) n2 (n2 + 64)) := lkeep hb2 (by simp [go_sem])
  have q24 : w2.cell? ⟨w.heap.size, 4, none⟩ = some (.slice (some ⟨g3, 0, none⟩) n3 (n3 + 64)) := lkeep hb2 (by simp [go_sem])
  have q25 : w2.cell? ⟨w.heap.size, 5, none⟩ = some (.slice (some ⟨g4, 0, none⟩) n4 (n4 + 64)) := lkeep hb2 (by simp [go_sem])
  clear hb2
  go_wp2_with fail
  refine (sparerel_any g4 n4 _ (m4.keep (HB2.out)) b4).mono ?_
  rintro e w3 ⟨rfl, hb3⟩
  have HB3 : Hid (Below w.heap.size w w3) := lb_trans (HB2.out) hb3
  have q30 := lkeep hb3 q20
  have q31 := lkeep hb3 q21
  have q32 := lkeep hb3 q22
  have q33 := lkeep hb3 q23
  have q34 := lkeep hb3 q24
  have q35 := lkeep hb3 q25
  clear hb3
  go_wp2
  go_ret
  exact ⟨rfl, HB3.out⟩



end Go.Proofs.YtbckolkgncajfaaGreatDoor
