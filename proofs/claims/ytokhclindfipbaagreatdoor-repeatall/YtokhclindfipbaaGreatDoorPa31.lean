/-
  The document's order of two sequences; a list of repeats in memory.
-/
import Derived.Test.YtokhclindfipbaaGreatDoorProg
import Derived.WalkKit
import Derived.WalkSpells
import Derived.WalkLawsBesides
import Derived.RowKit3
import Derived.Below
import Derived.Deep.QuietTactic
import Derived.BigQuiet
import Derived.WalkSmall
import Derived.Laws.Rows
import Derived.OwnWalk
import Derived.Deep.Cut
import Derived.Deep.RegionHeld3
import Derived.Deep.LoopGhost
import Derived.Test.YtokhclindfipbaaGreatDoorPa30
namespace Go.Proofs.YtokhclindfipbaaGreatDoor
open Go.RowKit

set_option maxRecDepth 100000 in
set_option maxHeartbeats 4000000 in
theorem refless18_any (A : Option Addr) (c : Nat) (nm : List Int) (x y : Addr) (nx cx ny cy i n k m : Nat) (w : World) (hA : IntsAt w A .i64 nm) (hl : nm.length ≤ 1048576) (hx : w.cell? x = some (.int .i64 (i : Int))) (hy : w.cell? y = some (.int .i64 (k : Int))) (hnx : 0 < nx) (hny : 0 < ny) (hi : i + n ≤ nm.length) (hk : k + m ≤ nm.length) :
    Calls Tryz.prog 74 #[.slice A nm.length c, .agg #[.int .i64 (n : Int), .slice (some x) nx cx], .agg #[.int .i64 (m : Int), .slice (some y) ny cy]] w fun e w' => e = .returned (.bool (lsQ nm (n, i) (m, k))) ∧ Below w.heap.size w w' := by
  obtain ⟨W, HW⟩ : ∃ W, Hid ((w.alloc (.cells #[.int .i64 (n : Int), .slice (some x) nx cx] 69)).alloc (.cells #[.int .i64 (m : Int), .slice (some y) ny cy] 69) = W) := ⟨_, rfl⟩
  have HB : Hid (Below w.heap.size w W) := by unfold Hid; rw [← HW.out]; exact lb_alloc (lb_alloc (Below.refl _ _) _) _
  have i0 : W.cell? ⟨w.heap.size, 0, none⟩ = some (.int .i64 (n : Int)) := by rw [← HW.out]; simp [go_sem]
  have i1 : W.cell? ⟨w.heap.size, 1, none⟩ = some (.slice (some x) nx cx) := by rw [← HW.out]; simp [go_sem]
  have j0 : W.cell? ⟨w.heap.size + 1, 0, none⟩ = some (.int .i64 (m : Int)) := by rw [← HW.out]; simp [go_sem]
  have j1 : W.cell? ⟨w.heap.size + 1, 1, none⟩ = some (.slice (some y) ny cy) := by rw [← HW.out]; simp [go_sem]
  have kx := lkeep HB.out hx
  have ky := lkeep HB.out hy
  have HAW : Hid (IntsAt W A .i64 nm) := hA.keep HB.out
  have hnx' : (0 : Int) < (nx : Int) := by omega
  have hny' : (0 : Int) < (ny : Int) := by omega
  have HQ : Hid (lsQ nm (n, i) (m, k) = ltL ((seqN nm i n).drop 0) ((seqN nm k m).drop 0)) := rfl
  clear hA hx hy
  go_enter Tryz.func74, Tryz.ntmps74
  go_upto_region 1 with fail
  rw [HW.out]
  clear HW
  go_wp2
  go_loopw [7] (fun v wr => ∃ t : Nat, v = .int .i64 (t : Int) ∧ t ≤ n ∧ t ≤ m ∧ Hid (ltL ((seqN nm i n).drop t) ((seqN nm k m).drop t) = lsQ nm (n, i) (m, k)) ∧ Hid (wr = W)) (fun v _ => n - (intOf v).toNat)
  case atStart => exact ⟨0, rfl, Nat.zero_le _, Nat.zero_le _, HQ.out.symm, rfl⟩
  case round =>
    obtain ⟨t, rfl, h1, h2, HS, HWr⟩ := hrel
    obtain rfl := HWr.out.symm
    clear HWr
    by_cases a1 : t < n
    · have a1' : (t : Int) < (n : Int) := by omega
      by_cases a2 : t < m
      · have a2' : (t : Int) < (m : Int) := by omega
        obtain ⟨u, hu⟩ : ∃ u, u = i + t := ⟨_, rfl⟩
        obtain ⟨v, hv⟩ : ∃ v, v = k + t := ⟨_, rfl⟩
        have hu1 : (i : Int) + (t : Int) = (u : Int) := by omega
        have hv1 : (k : Int) + (t : Int) = (v : Int) := by omega
        have hu2 : u < nm.length := by omega
        have hv2 : v < nm.length := by omega
        have hu3 : (u : Int) < (nm.length : Int) := by omega
        have hv3 : (v : Int) < (nm.length : Int) := by omega
        obtain ⟨x1, ex1, c1⟩ := HAW.out u hu2
        subst ex1
        obtain ⟨x2, ex2, c2⟩ := HAW.out v hv2
        obtain rfl := Option.some.inj ex2
        have HST : Hid (lsQ nm (n, i) (m, k) = if nth nm u = nth nm v then ltL ((seqN nm i n).drop (t + 1)) ((seqN nm k m).drop (t + 1)) else decide (nth nm u < nth nm v)) := by
          unfold Hid
          rw [← HS.out, lsQ_step hi hk a1 a2, hu, hv]
        clear hu hv HS
        by_cases he : nth nm u = nth nm v
        · have HS2 : Hid (ltL ((seqN nm i n).drop (t + 1)) ((seqN nm k m).drop (t + 1)) = lsQ nm (n, i) (m, k)) := by
            have := HST.out
            rw [if_pos he] at this
            exact this.symm
          rw [he] at c1
          clear he HST
          generalize nth nm v = z at *
          go_wp2
          go_roundw
          case rel => exact ⟨t + 1, by go_num, by omega, by omega, HS2, by first | exact rfl | exact trivial⟩
          case measure => simp [intOf]; omega
        · have HN : Hid (lsQ nm (n, i) (m, k) = decide (nth nm u < nth nm v)) := by
            have := HST.out
            rw [if_neg he] at this
            exact this
          have hx' : (nth nm u != nth nm v) = true := by simpa using he
          clear he HST
          generalize nth nm u = z1 at *
          generalize nth nm v = z2 at *
          go_wp2
          go_ret
          exact ⟨by rw [HN.out]; rfl, HB.out⟩
      · have a2' : ¬ (t : Int) < (m : Int) := by omega
        have HN : Hid (lsQ nm (n, i) (m, k) = decide (n < m)) := by
          unfold Hid
          rw [← HS.out, lsQ_end hi hk h1 h2 (.inr (by omega))]
        go_wp2
        go_ret
        exact ⟨by rw [HN.out]; simp, HB.out⟩
    · have a1' : ¬ (t : Int) < (n : Int) := by omega
      have HN : Hid (lsQ nm (n, i) (m, k) = decide (n < m)) := by
        unfold Hid
        rw [← HS.out, lsQ_end hi hk h1 h2 (.inl (by omega))]
      go_wp2
      go_ret
      exact ⟨by rw [HN.out]; simp, HB.out⟩
/-- Where a told sequence's places lie: S tells the slice of each. -/
def AtP (nm : List Int) (en : Nat → Nat) (S : Nat × Nat → Value) (w : World) (r : Nat × Nat) : Prop := ∃ (X : Addr) (c : Nat), S r = .slice (some X) (plcS nm en r.2 r.1).length c ∧ IntsAt w (some X) .i64 (natL (plcS nm en r.2 r.1)) ∧ (plcS nm en r.2 r.1).length ≤ c
theorem AtP.keep {nm : List Int} {en : Nat → Nat} {S : Nat × Nat → Value} {w w' : World} {r : Nat × Nat} (h : AtP nm en S w r) (hb : Below w.heap.size w w') : AtP nm en S w' r := by
  obtain ⟨X, c, e, hI, hc⟩ := h
  exact ⟨X, c, e, hI.keep hb, hc⟩
/-- A list of repeats. -/
def RpAt (w : World) (A : Option Addr) (S : Nat × Nat → Value) (R : List (Nat × Nat)) : Prop := ∀ j, j < R.length → ∃ a : Addr, A = some a ∧ w.cell? (a.add (j * 2)) = some (.int .i64 ((rth R j).1 : Int)) ∧ w.cell? ((a.add (j * 2)).add 1) = some (S (rth R j))
theorem RpAt.keep {w w' : World} {A : Option Addr} {S : Nat × Nat → Value} {R : List (Nat × Nat)} (h : RpAt w A S R) (hb : Below w.heap.size w w') : RpAt w' A S R := fun j hj => by
  obtain ⟨a, ea, q1, q2⟩ := h j hj
  exact ⟨a, ea, lkeep hb q1, lkeep hb q2⟩
def rNews (S : Nat × Nat → Value) (R : List (Nat × Nat)) : List Value := R.flatMap fun r => [.int .i64 (r.1 : Int), S r]
theorem rNews_len (S : Nat × Nat → Value) : ∀ R : List (Nat × Nat), (rNews S R).length = R.length * 2
  | [] => rfl
  | r :: R => by
    show (Value.int .i64 (r.1 : Int) :: S r :: rNews S R).length = _
    rw [List.length_cons, List.length_cons, rNews_len S R, List.length_cons]
    omega
theorem rNews_app (S : Nat × Nat → Value) (R Q : List (Nat × Nat)) : rNews S (R ++ Q) = rNews S R ++ rNews S Q := by simp [rNews]
theorem rNews_get (S : Nat × Nat → Value) : ∀ {R : List (Nat × Nat)} {j : Nat}, j < R.length → (rNews S R)[j * 2]? = some (.int .i64 ((rth R j).1 : Int)) ∧ (rNews S R)[j * 2 + 1]? = some (S (rth R j))
  | r :: R, 0, _ => ⟨rfl, rfl⟩
  | r :: R, j + 1, h => by
    have ih := rNews_get S (R := R) (j := j) (by simp at h; omega)
    show (Value.int .i64 (r.1 : Int) :: S r :: rNews S R)[(j + 1) * 2]? = _ ∧ (Value.int .i64 (r.1 : Int) :: S r :: rNews S R)[(j + 1) * 2 + 1]? = _
    rw [show (j + 1) * 2 = j * 2 + 1 + 1 by omega, List.getElem?_cons_succ, List.getElem?_cons_succ, show j * 2 + 1 + 1 + 1 = (j * 2 + 1) + 1 + 1 by omega, List.getElem?_cons_succ, List.getElem?_cons_succ]
    exact ih


end Go.Proofs.YtokhclindfipbaaGreatDoor
