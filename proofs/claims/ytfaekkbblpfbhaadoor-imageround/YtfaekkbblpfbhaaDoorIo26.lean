/-
  What the statement on images there and back leans on; no Go in sight. The marks behind a list of numbers, looked at by the document's helpers: true where they stand; the list is at most 2^20 long. The marks behind a list of symbols, of relocations, looked at by the document's helpers: true where they stand; the list is at most 2^20 long. The marks behind an object's lists, looked at by the document's helper: true where they stand; the lists are at most 2^20 long.
-/
import Derived.Test.YtfaekkbblpfbhaaDoorProg
import Derived.WalkKit
import Derived.WalkSpells
import Derived.WalkLawsBesides
import Derived.RowKit3
import Derived.Below
import Derived.Deep.QuietTactic
import Derived.BigQuiet
import Derived.WalkSmall
import Derived.Laws.Rows
import Derived.Test.YtfaekkbblpfbhaaDoorIo23
import Derived.Test.YtfaekkbblpfbhaaDoorIo24
import Derived.Test.YtfaekkbblpfbhaaDoorIo25
import Derived.Test.YtfaekkbblpfbhaaDoorIo16
namespace Go.Proofs.YtfaekkbblpfbhaaDoor
open Go.RowKit

/-- A copy of bytes. -/
theorem bcopied {zs : List Int} {w w' : World} {e : Ending} (h : CopyP 5 1 zs.length (iNews .u8 zs) w e w') : ∃ (A : Option Addr) (c : Nat), e = .returned (.slice A zs.length c) ∧ w'.ownsRow w.heap.size 5 1 (.slice A zs.length c) zs.length (iVals .u8 zs) ∧ IntsAt w' A .u8 zs ∧ zs.length ≤ c ∧ Below w.heap.size w w' := by
  obtain ⟨A, c, h1, h2, h3, h4⟩ := h
  rw [iNews_vals] at h2
  refine ⟨A, c, h1, h2, row_ints h2, ?_, ⟨h3.os, h3.tape, h3.output, h3.size, fun k hk => h3.block k hk (by simp)⟩⟩
  rcases h2.2 with ⟨hv, h0⟩ | ⟨j, cap, cur, hv, _, _, hc, _⟩
  · omega
  · cases hv
    exact hc

/-- No single byte can be changed unnoticed. -/
theorem changed {text mem : List Int} {ent : Int} {i : Nat} {y : Int} {w w' : World} {r : Ending} (hi : i < (bytesI text ent mem).length) (hy : 0 ≤ y ∧ y < 256) (hn : ¬ nth (bytesI text ent mem) i = y) (h : ReadP ((bytesI text ent mem).set i y) w r w') :
    ∃ E N : Int, ¬ E = 0 ∧ r = .returned (.tuple #[.agg #[.slice none 0 0, .int .i64 0, .slice none 0 0], .int .i64 E, .int .i64 N]) ∧ Below w.heap.size w w' := by
  obtain ⟨hb, ⟨h0, h1⟩ | ⟨_, h0, h1⟩ | ⟨h0, _⟩⟩ := h
  · exact ⟨_, _, h0, h1, hb⟩
  · exact ⟨_, _, h0, h1, hb⟩
  · exfalso
    have hA : AreB ((bytesI text ent mem).set i y) := fun x hx => by
      rcases List.mem_or_eq_of_mem_set hx with hx | rfl
      · exact bytesI_areB _ _ _ x hx
      · exact hy
    have hw := (tookI_write hA h0).1
    exact one_byte (b := bytesI text ent mem) rfl hw (bytesI_areB _ _ _) hi hy hn rfl
theorem set_areB {l : List Int} {i : Nat} {y : Int} (h : AreB l) (hy : 0 ≤ y ∧ y < 256) : AreB (l.set i y) := fun x hx => by
  rcases List.mem_or_eq_of_mem_set hx with hx | rfl
  · exact h x hx
  · exact hy
theorem iVals_set (K : IntKind) (l : List Int) (i : Nat) (y : Int) : iVals K (l.set i y) = (iVals K l).set i (.int K y) := by simp [iVals, List.map_set]


theorem wrote_nil {text mem : List Int} {ent : Int} {w w' : World} {A : Option Addr} {l c : Nat} {E : Int} (h : WroteP text ent mem w (.returned (.tuple #[.slice A l c, .int .i64 E])) w') (hk : (checkI text mem.length ent).1 = 0) : A = none → c = 0 := by
  unfold WroteP at h
  rw [if_pos hk] at h
  obtain ⟨v, h1, h2, _⟩ := h
  cases h1
  intro e
  rcases h2.2 with ⟨hv, _⟩ | ⟨g, cap, cur, hv, _⟩
  · cases hv; rfl
  · cases hv; cases e
theorem tg_pos {v : Int} (h : isT v = true) : 0 ≤ tgV v := by
  have e : tgV v = dN v := by unfold tgV; rw [if_pos h]
  rw [e]
  unfold isT at h
  rw [Bool.and_eq_true, decide_eq_true_eq] at h
  obtain ⟨h0, hP⟩ := h
  cases hi : isIns v
  · unfold dOp at h0; rw [hi] at h0; simp at h0
  · have e1 : dOp v = wOp v := by unfold dOp; rw [hi]; rfl
    have e2 : dN v = wN v := by unfold dN; rw [hi]; rfl
    rw [e1] at hP
    rw [e2]
    have : nNeg v = false := by
      unfold nNeg
      unfold wOp at hP
      rw [hP]
      simp
    rw [wN_pos this]
    omega
theorem far_in {text : List Int} {i : Nat} (h : farT text i = false) (ht : isT (nth text i) = true) : tgV (nth text i) < text.length := by
  unfold farT at h
  rw [ht] at h
  simp at h
  omega
theorem last_ends {v : Int} (h : lastOK v = true) : (!endsB (dOp v) || dOp v == 16) = false ∧ (dOp v == 17) = false ∧ (dOp v == 18) = false := by
  unfold lastOK at h
  rw [decide_eq_true_eq] at h
  rcases h with h | h | h | h <;> rw [h] <;> decide

end Go.Proofs.YtfaekkbblpfbhaaDoor

namespace Go.Proofs.YtfaekkbblpfbhaaDoor
open Go.RowKit

set_option maxRecDepth 100000 in
set_option maxHeartbeats 1000000 in
theorem sparewords_any (g n : Nat) (w : World) (hA : ∀ i, n ≤ i → i < n + 64 → w.cell? ⟨g, i, none⟩ = some (.int .u32 (9437184 + i + 1))) (hz : n ≤ 1048576) :
    Calls Tryd.prog 40 #[.slice (some ⟨g, 0, none⟩) n (n + 64)] w fun e w' => e = .returned (.bool true) ∧ w' = w := by
  go_enter Tryd.func40, Tryd.ntmps40
  go_wp2
  go_loop [4] (fun i => ∃ k : Nat, i = .int .i64 k ∧ n ≤ k ∧ k ≤ n + 64) (fun i => n + 64 - (intOf i).toNat)
  case atStart => exact ⟨n, rfl, by omega, by omega⟩
  case round =>
    obtain ⟨k, rfl, hk, hk2⟩ := hrel
    by_cases hlt : k < n + 64
    · have c := hA k hk hlt
      go_wp2_with fail
      refine (num_any 9 k (by omega) (by omega) (by omega) (by omega) _).mono ?_
      rintro e w1 ⟨rfl, rfl⟩
      go_wp2
      go_round
      case rel => exact ⟨k + 1, by go_num, by omega, by omega⟩
      case measure => simp [intOf]; omega
    · go_wp2
      go_ret
      exact ⟨rfl, rfl⟩

set_option maxRecDepth 100000 in
set_option maxHeartbeats 1000000 in
theorem sparelongs_any (g n : Nat) (w : World) (hA : ∀ i, n ≤ i → i < n + 64 → w.cell? ⟨g, i, none⟩ = some (.int .i64 (9437184 + i + 1))) (hz : n ≤ 1048576) :
    Calls Tryd.prog 41 #[.slice (some ⟨g, 0, none⟩) n (n + 64)] w fun e w' => e = .returned (.bool true) ∧ w' = w := by
  go_enter Tryd.func41, Tryd.ntmps41
  go_wp2
  go_loop [4] (fun i => ∃ k : Nat, i = .int .i64 k ∧ n ≤ k ∧ k ≤ n + 64) (fun i => n + 64 - (intOf i).toNat)
  case atStart => exact ⟨n, rfl, by omega, by omega⟩
  case round =>
    obtain ⟨k, rfl, hk, hk2⟩ := hrel
    by_cases hlt : k < n + 64
    · have c := hA k hk hlt
      go_wp2_with fail
      refine (num_any 9 k (by omega) (by omega) (by omega) (by omega) _).mono ?_
      rintro e w1 ⟨rfl, rfl⟩
      go_wp2
      go_round
      case rel => exact ⟨k + 1, by go_num, by omega, by omega⟩
      case measure => simp [intOf]; omega
    · go_wp2
      go_ret
      exact ⟨rfl, rfl⟩
def MarkI (w : World) (K : IntKind) (g n : Nat) : Prop := ∀ i, n ≤ i → i < n + 64 → w.cell? ⟨g, i, none⟩ = some (.int K (9437184 + i + 1))
def MarkS (w : World) (g n : Nat) : Prop := ∀ i, n ≤ i → i < n + 64 → w.cell? ⟨g, i * 3, none⟩ = some (.string ⟨#[]⟩) ∧ w.cell? ⟨g, i * 3 + 1, none⟩ = some (.int .i8 0) ∧ w.cell? ⟨g, i * 3 + 2, none⟩ = some (.int .i64 (9437184 + i + 1))
def MarkR (w : World) (g n : Nat) : Prop := ∀ i, n ≤ i → i < n + 64 → w.cell? ⟨g, i * 2, none⟩ = some (.int .i64 (9437184 + i + 1)) ∧ w.cell? ⟨g, i * 2 + 1, none⟩ = some (.int .i64 0)
theorem MarkI.keep {w w1 : World} {K : IntKind} {g n : Nat} (h : MarkI w K g n) (hb : Below w.heap.size w w1) : MarkI w1 K g n := fun i a b => lkeep hb (h i a b)
theorem MarkS.keep {w w1 : World} {g n : Nat} (h : MarkS w g n) (hb : Below w.heap.size w w1) : MarkS w1 g n := fun i a b => ⟨lkeep hb (h i a b).1, lkeep hb (h i a b).2.1, lkeep hb (h i a b).2.2⟩
theorem MarkR.keep {w w1 : World} {g n : Nat} (h : MarkR w g n) (hb : Below w.heap.size w w1) : MarkR w1 g n := fun i a b => ⟨lkeep hb (h i a b).1, lkeep hb (h i a b).2⟩

end Go.Proofs.YtfaekkbblpfbhaaDoor
