/-
  check of the document: what is asked of the objects. names of the document: what is asked of the symbols. Resolve of the document.
-/
import Derived.Test.YtiihfkjgdhfmiaaProg
import Derived.WalkKit
import Derived.WalkSpells
import Derived.WalkLawsBesides
import Derived.RowKit3
import Derived.Below
import Derived.Deep.QuietTactic
import Derived.BigQuiet
import Derived.WalkSmall
import Derived.Laws.Rows
import Derived.Test.YtiihfkjgdhfmiaaSR08
import Derived.Test.YtiihfkjgdhfmiaaSR13
import Derived.Test.YtiihfkjgdhfmiaaSR10
import Derived.Test.YtiihfkjgdhfmiaaSR09
namespace Go.Proofs.Ytiihfkjgdhfmiaa
open Go.RowKit

theorem ret3I {a b c d e f : Int} (h1 : a = b) (h2 : c = d) (h3 : e = f) : Ending.returned (.tuple #[.int .i64 a, .int .i64 c, .int .i64 e]) = .returned (.tuple #[.int .i64 b, .int .i64 d, .int .i64 f]) := by rw [h1, h2, h3]
theorem sameN_no {l : List Ob} {i k : Nat} (h : ((ob l k).nm.toList == (ob l i).nm.toList) = false) : sameN l i k = none := by
  unfold sameN; rw [if_neg (by rw [h]; simp)]
theorem sameN_yes {l : List Ob} {i k : Nat} (h : ((ob l k).nm.toList == (ob l i).nm.toList) = true) : sameN l i k = some () := by
  unfold sameN; rw [if_pos h]
set_option maxHeartbeats 4000000 in
set_option maxRecDepth 100000 in
theorem refchkl_any (A : Option Addr) (ca : Nat) (q : Nat → Pl) (l : List Ob) (w : World) (hA : ObsIn w A q l) :
    Calls Try.prog 25 #[.slice A l.length ca] w (ErrP (chkL l) w) := by
  have HA : Hid (ObsIn w A q l) := hA
  have hf := hA.few
  clear hA
  by_cases hm : 32 < l.length
  · have hm' : (32 : Int) < (l.length : Int) := by omega
    have HX : Hid (chkL l = some (21, 32, 0)) := by unfold Hid chkL; rw [if_pos hm]
    go_enter Try.func25, Try.ntmps25
    go_wp2
    go_ret3
    exact ⟨ret3I (by rw [HX.out]; rfl) (by rw [HX.out]; rfl) (by rw [HX.out]; rfl), Below.refl _ _⟩
  · have hm' : ¬ (32 : Int) < (l.length : Int) := by omega
    have HX : Hid (chkL l = fstN (badO l) l.length) := by unfold Hid chkL; rw [if_neg hm]
    go_enter Try.func25, Try.ntmps25
    go_wp2
    go_loopw [5] (fun i wr => ∃ k : Nat, i = .int .i64 k ∧ k ≤ l.length ∧ Hid (∀ j, j < k → badO l j = none) ∧ Hid (Below w.heap.size w wr)) (fun i _ => l.length - (intOf i).toNat)
    case atStart => exact ⟨0, rfl, Nat.zero_le _, fun j hj => absurd hj (Nat.not_lt_zero _), Below.refl _ _⟩
    case round =>
      obtain ⟨k, rfl, hk, HN, HB⟩ := hrel
      by_cases hkl : k < l.length
      · have hkl' : (k : Int) < (l.length : Int) := by omega
        obtain ⟨a, ea, x0, x1, x2, x3, x4, x5⟩ := HA.out.cells.six HB.out k hkl
        have oA := (HA.out.each k hkl).keep HB.out
        have CC := refcheck_any (ob l k).nm (ob l k).dA (q k).A1 (q k).A2 (q k).A3 (q k).A4 (q k).c1 (ob l k).data.length (q k).c2 (q k).c3 (q k).c4 (ob l k).code (ob l k).ss (ob l k).rs wr oA.cd oA.cr oA.sy oA.rl oA.hc oA.hd oA.hs oA.hl
        obtain ⟨E, hE⟩ : ∃ E, E = (obC (ob l k)).1 := ⟨_, rfl⟩
        obtain ⟨M, hM⟩ : ∃ M, M = (obC (ob l k)).2 := ⟨_, rfl⟩
        change Calls Try.prog 39 _ wr (fun e w' => e = .returned (.tuple #[.int .i64 (obC (ob l k)).1, .int .i64 (obC (ob l k)).2]) ∧ Below wr.heap.size wr w') at CC
        rw [← hE, ← hM] at CC
        have HE : Hid (E = (obC (ob l k)).1) := hE
        have HM : Hid (M = (obC (ob l k)).2) := hM
        clear oA hE hM
        subst ea
        by_cases he : E = 0
        · subst he
          go_wp2_with fail
          refine CC.mono ?_
          rintro e w1 ⟨rfl, hb1⟩
          have HB1 : Hid (Below w.heap.size w w1) := lb_trans HB.out hb1
          clear CC hb1 x0 x1 x2 x3 x4 x5
          go_wp2
          go_loopw [8] (fun i wr => ∃ j : Nat, i = .int .i64 j ∧ j ≤ k ∧ Hid (∀ m, m < j → sameN l k m = none) ∧ Hid (Below w.heap.size w wr)) (fun i _ => k - (intOf i).toNat)
          case atStart => exact ⟨0, rfl, Nat.zero_le _, fun j hj => absurd hj (Nat.not_lt_zero _), HB1⟩
          case round =>
            clear HB1 HB
            obtain ⟨j, rfl, hj, HS, HB2⟩ := hrel
            by_cases hjk : j < k
            · have hjk' : (j : Int) < (k : Int) := by omega
              have hjl : j < l.length := by omega
              have hjl' : (j : Int) < (l.length : Int) := by omega
              obtain ⟨b, eb, x0, -⟩ := HA.out.cells.six HB2.out k hkl
              obtain rfl := Option.some.inj eb
              clear eb
              obtain ⟨b, eb, y0, -⟩ := HA.out.cells.six HB2.out j hjl
              obtain rfl := Option.some.inj eb
              clear eb
              cases hn : ((ob l j).nm.toList == (ob l k).nm.toList)
              · have HS2 : Hid _ := fst_step HS.out (sameN_no hn)
                go_wp2
                go_quiet (fail)
                have HB3 : Hid (Below w.heap.size w (wr.drewN nq)) := below_drewN HB2.out _
                go_wp2
                go_roundw
                case rel => exact ⟨j + 1, by go_num, by omega, HS2, HB3⟩
                case measure => simp [intOf]; omega
              · have HX2 : Hid (chkL l = some (26, (k : Int), -1)) := by
                  rw [Hid, HX.out]
                  refine fst_hit HN.out ?_ hkl
                  unfold badO
                  rw [if_pos HE.out.symm, fst_hit HS.out (sameN_yes hn) hjk]
                go_wp2
                go_quiet (fail)
                have HB3 : Hid (Below w.heap.size w (wr.drewN nq)) := below_drewN HB2.out _
                go_wp2
                go_ret3
                exact ⟨ret3I (by rw [HX2.out]; rfl) (by rw [HX2.out]; rfl) (by rw [HX2.out]; rfl), HB3.out⟩
            · have hjk' : ¬ (j : Int) < (k : Int) := by omega
              have HN2 : Hid _ := fst_step HN.out (show badO l k = none by
                unfold badO
                rw [if_pos HE.out.symm, fst_none (fun m hm => HS.out m (by omega))])
              go_wp2
              go_roundw
              case rel => exact ⟨k + 1, by go_num, by omega, HN2, HB2⟩
              case measure => simp [intOf]; omega
        · have he' : (E != 0) = true := by simpa using he
          have HX2 : Hid (chkL l = some (E, (k : Int), M)) := by
            rw [Hid, HX.out]
            refine fst_hit HN.out ?_ hkl
            unfold badO
            rw [if_neg (by rw [← HE.out]; exact he), ← HE.out, ← HM.out]
          clear he
          go_wp2_with fail
          refine CC.mono ?_
          rintro e w1 ⟨rfl, hb1⟩
          have HB1 : Hid (Below w.heap.size w w1) := lb_trans HB.out hb1
          clear CC hb1 x0 x1 x2 x3 x4 x5
          go_wp2
          go_ret3
          exact ⟨ret3I (by rw [HX2.out]; rfl) (by rw [HX2.out]; rfl) (by rw [HX2.out]; rfl), HB1.out⟩
      · have hkl' : ¬ (k : Int) < (l.length : Int) := by omega
        have HX2 : Hid (chkL l = none) := by rw [Hid, HX.out]; exact fst_none (fun j hj => HN.out j (by omega))
        go_wp2
        go_ret3
        exact ⟨ret3I (by rw [HX2.out]; rfl) (by rw [HX2.out]; rfl) (by rw [HX2.out]; rfl), HB.out⟩


end Go.Proofs.Ytiihfkjgdhfmiaa

namespace Go.Proofs.Ytiihfkjgdhfmiaa
open Go.RowKit

theorem twS_no {l : List Ob} {i k : Nat} (h : (sKind (ob l i).ss k == 1) = false ∨ (firstF (sName (ob l i).ss k) 1 l i k).isSome = false) : twS l i k = none := by
  unfold twS
  rw [if_neg]
  rintro ⟨h1, h2⟩
  rcases h with h | h
  · rw [h1] at h; cases h
  · rw [h2] at h; cases h
theorem twS_yes {l : List Ob} {i k : Nat} (h : (sKind (ob l i).ss k == 1) = true) (h2 : (firstF (sName (ob l i).ss k) 1 l i k).isSome = true) : twS l i k = some (26, (i : Int), (k : Int)) := by
  unfold twS
  rw [if_pos ⟨h, h2⟩]
theorem unS_no {l : List Ob} {i k : Nat} (h : (sKind (ob l i).ss k == 3) = false ∨ (findF (sName (ob l i).ss k) l).isSome = true) : unS l i k = none := by
  unfold unS
  rw [if_neg]
  rintro ⟨h1, h2⟩
  rcases h with h | h
  · rw [h1] at h; cases h
  · rw [h2] at h; cases h
theorem unS_yes {l : List Ob} {i k : Nat} (h : (sKind (ob l i).ss k == 3) = true) (h2 : (findF (sName (ob l i).ss k) l).isSome = false) : unS l i k = some (40, (i : Int), (k : Int)) := by
  unfold unS
  rw [if_pos ⟨h, h2⟩]
set_option maxHeartbeats 8000000 in
set_option maxRecDepth 100000 in
theorem refnames_any (A : Option Addr) (ca : Nat) (q : Nat → Pl) (l : List Ob) (w : World) (hA : ObsIn w A q l) :
    Calls Try.prog 26 #[.slice A l.length ca] w (ErrP (namL l) w) := by
  have HA : Hid (ObsIn w A q l) := hA
  have hf := hA.few
  have C1 : Hid (∀ nm (o s : Nat) wx, Below w.heap.size w wx → o ≤ 64 → s ≤ 1048576 → Calls Try.prog 28 #[.slice A l.length ca, .string nm, .int .i8 1, .int .i64 o, .int .i64 s] wx (DefP (firstF nm 1 l o s) wx)) := fun nm o s wx hx ho hs => reffirst_any A ca q l nm 1 o s wx (hA.keep hx) ho hs
  have C2 : Hid (∀ nm wx, Below w.heap.size w wx → Calls Try.prog 11 #[.slice A l.length ca, .string nm] wx (DefP (findF nm l) wx)) := fun nm wx hx => reffind_any A ca q l nm wx (hA.keep hx)
  clear hA
  go_enter Try.func26, Try.ntmps26
  go_wp2
  go_loopw [5] (fun i wr => ∃ k : Nat, i = .int .i64 k ∧ k ≤ l.length ∧ Hid (∀ j, j < k → twO l j = none) ∧ Hid (Below w.heap.size w wr)) (fun i _ => l.length - (intOf i).toNat)
  case atStart => exact ⟨0, rfl, Nat.zero_le _, fun j hj => absurd hj (Nat.not_lt_zero _), Below.refl _ _⟩
  case round =>
    obtain ⟨k, rfl, hk, HN, HB⟩ := hrel
    by_cases hkl : k < l.length
    · have hkl' : (k : Int) < (l.length : Int) := by omega
      obtain ⟨a, ea, -⟩ := HA.out.cells k hkl
      subst ea
      go_wp2
      go_loopw [6] (fun i wr => ∃ j : Nat, i = .int .i64 j ∧ j ≤ (ob l k).ss.length ∧ Hid (∀ m, m < j → twS l k m = none) ∧ Hid (Below w.heap.size w wr)) (fun i _ => (ob l k).ss.length - (intOf i).toNat)
      case atStart => exact ⟨0, rfl, Nat.zero_le _, fun j hj => absurd hj (Nat.not_lt_zero _), HB⟩
      case round =>
        clear HB
        obtain ⟨j, rfl, hj, HS, HB1⟩ := hrel
        obtain ⟨b, eb, x0, x1, x2, x3, x4, x5⟩ := HA.out.cells.six HB1.out k hkl
        obtain rfl := Option.some.inj eb
        have hss := (HA.out.each k hkl).hs
        clear eb x0 x1 x2 x3 x5
        by_cases hjl : j < (ob l k).ss.length
        · have hjl' : (j : Int) < ((ob l k).ss.length : Int) := by omega
          obtain ⟨a3, e3, s0, s1, s2⟩ := (HA.out.each k hkl).sy j hjl
          have t0 := lkeep HB1.out s0
          have t1 : wr.cell? ⟨(a3.add (j * 3)).block, (a3.add (j * 3)).off + 1, none⟩ = some (.int .i8 (sKind (ob l k).ss j)) := lkeep HB1.out s1
          have t2 : wr.cell? ⟨(a3.add (j * 3)).block, (a3.add (j * 3)).off + 2, none⟩ = some (.int .i64 (sAt (ob l k).ss j)) := lkeep HB1.out s2
          rw [e3] at x4
          clear s0 s1 s2 e3
          have CF := C1.out (sName (ob l k).ss j) k j (wr.alloc (.cells #[.string (sName (ob l k).ss j), .int .i8 (sKind (ob l k).ss j), .int .i64 (sAt (ob l k).ss j)] 52)) (lb_alloc HB1.out _) (by omega) (by omega)
          obtain ⟨x, hx⟩ : ∃ x, x = firstF (sName (ob l k).ss j) 1 l k j := ⟨_, rfl⟩
          rw [← hx] at CF
          unfold DefP at CF
          have HX : Hid (x = firstF (sName (ob l k).ss j) 1 l k j) := hx
          clear hx
          go_wp2_with fail
          refine CF.mono ?_
          rintro e w1 ⟨rfl, hb1⟩
          have g1 : (w1.alloc (.cells #[.int .i64 (dfI x), .int .i64 (dfA x)] 37)).cell? ⟨wr.heap.size, 1, none⟩ = some (.int .i8 (sKind (ob l k).ss j)) := lkeep (lb_alloc (Below.refl _ _) _) (lkeep hb1 (by simp [go_sem]))
          have HB2 : Hid (Below w.heap.size w w1) := lb_trans (lb_alloc HB1.out _) hb1
          clear CF hb1 t0 t1 t2 x4
          cases hd : (sKind (ob l k).ss j == 1)
          · have HS2 : Hid _ := fst_step HS.out (twS_no (Or.inl hd))
            go_wp2
            go_roundw
            case rel => exact ⟨j + 1, by go_num, by omega, HS2, lb_alloc HB2.out _⟩
            case measure => simp [intOf]; omega
          · cases hy : x.isSome
            · have HS2 : Hid _ := fst_step HS.out (twS_no (Or.inr (by rw [← HX.out]; exact hy)))
              go_wp2
              go_roundw
              case rel => exact ⟨j + 1, by go_num, by omega, HS2, lb_alloc HB2.out _⟩
              case measure => simp [intOf]; omega
            · have HX2 : Hid (namL l = some (26, (k : Int), (j : Int))) := by
                unfold Hid namL
                rw [fst_hit HN.out (show twO l k = some (26, (k : Int), (j : Int)) from fst_hit HS.out (twS_yes hd (by rw [← HX.out]; exact hy)) hjl) hkl]
              go_wp2
              go_ret3
              exact ⟨ret3I (by rw [HX2.out]; rfl) (by rw [HX2.out]; rfl) (by rw [HX2.out]; rfl), lb_alloc HB2.out _⟩
        · have hjl' : ¬ (j : Int) < ((ob l k).ss.length : Int) := by omega
          have HN2 : Hid _ := fst_step HN.out (show twO l k = none from fst_none (fun m hm => HS.out m (by omega)))
          go_wp2
          go_roundw
          case rel => exact ⟨k + 1, by go_num, by omega, HN2, HB1⟩
          case measure => simp [intOf]; omega
    · have hkl' : ¬ (k : Int) < (l.length : Int) := by omega
      have HT : Hid (namL l = fstN (unO l) l.length) := by
        unfold Hid namL
        rw [fst_none (fun j hj => HN.out j (by omega))]
      clear HN
      go_wp2
      go_loopw [10] (fun i wr => ∃ k : Nat, i = .int .i64 k ∧ k ≤ l.length ∧ Hid (∀ j, j < k → unO l j = none) ∧ Hid (Below w.heap.size w wr)) (fun i _ => l.length - (intOf i).toNat)
      case atStart => exact ⟨0, rfl, Nat.zero_le _, fun j hj => absurd hj (Nat.not_lt_zero _), HB⟩
      case round =>
        clear HB hk hkl hkl'
        obtain ⟨k, rfl, hk, HN, HB⟩ := hrel
        by_cases hkl : k < l.length
        · have hkl' : (k : Int) < (l.length : Int) := by omega
          obtain ⟨a, ea, -⟩ := HA.out.cells k hkl
          subst ea
          go_wp2
          go_loopw [11] (fun i wr => ∃ j : Nat, i = .int .i64 j ∧ j ≤ (ob l k).ss.length ∧ Hid (∀ m, m < j → unS l k m = none) ∧ Hid (Below w.heap.size w wr)) (fun i _ => (ob l k).ss.length - (intOf i).toNat)
          case atStart => exact ⟨0, rfl, Nat.zero_le _, fun j hj => absurd hj (Nat.not_lt_zero _), HB⟩
          case round =>
            clear HB
            obtain ⟨j, rfl, hj, HS, HB1⟩ := hrel
            obtain ⟨b, eb, x0, x1, x2, x3, x4, x5⟩ := HA.out.cells.six HB1.out k hkl
            obtain rfl := Option.some.inj eb
            have hss := (HA.out.each k hkl).hs
            clear eb x0 x1 x2 x3 x5
            by_cases hjl : j < (ob l k).ss.length
            · have hjl' : (j : Int) < ((ob l k).ss.length : Int) := by omega
              obtain ⟨a3, e3, s0, s1, s2⟩ := (HA.out.each k hkl).sy j hjl
              have t0 := lkeep HB1.out s0
              have t1 : wr.cell? ⟨(a3.add (j * 3)).block, (a3.add (j * 3)).off + 1, none⟩ = some (.int .i8 (sKind (ob l k).ss j)) := lkeep HB1.out s1
              have t2 : wr.cell? ⟨(a3.add (j * 3)).block, (a3.add (j * 3)).off + 2, none⟩ = some (.int .i64 (sAt (ob l k).ss j)) := lkeep HB1.out s2
              rw [e3] at x4
              clear s0 s1 s2 e3
              have CF := C2.out (sName (ob l k).ss j) (wr.alloc (.cells #[.string (sName (ob l k).ss j), .int .i8 (sKind (ob l k).ss j), .int .i64 (sAt (ob l k).ss j)] 52)) (lb_alloc HB1.out _)
              obtain ⟨x, hx⟩ : ∃ x, x = findF (sName (ob l k).ss j) l := ⟨_, rfl⟩
              rw [← hx] at CF
              unfold DefP at CF
              have HX : Hid (x = findF (sName (ob l k).ss j) l) := hx
              clear hx
              go_wp2_with fail
              refine CF.mono ?_
              rintro e w1 ⟨rfl, hb1⟩
              have g1 : (w1.alloc (.cells #[.int .i64 (dfI x), .int .i64 (dfA x)] 37)).cell? ⟨wr.heap.size, 1, none⟩ = some (.int .i8 (sKind (ob l k).ss j)) := lkeep (lb_alloc (Below.refl _ _) _) (lkeep hb1 (by simp [go_sem]))
              have HB2 : Hid (Below w.heap.size w w1) := lb_trans (lb_alloc HB1.out _) hb1
              clear CF hb1 t0 t1 t2 x4
              cases hd : (sKind (ob l k).ss j == 3)
              · have HS2 : Hid _ := fst_step HS.out (unS_no (Or.inl hd))
                go_wp2
                go_roundw
                case rel => exact ⟨j + 1, by go_num, by omega, HS2, lb_alloc HB2.out _⟩
                case measure => simp [intOf]; omega
              · cases hy : x.isSome
                · have HX2 : Hid (namL l = some (40, (k : Int), (j : Int))) := by
                    rw [Hid, HT.out]
                    exact fst_hit HN.out (show unO l k = some (40, (k : Int), (j : Int)) from fst_hit HS.out (unS_yes hd (by rw [← HX.out]; exact hy)) hjl) hkl
                  go_wp2
                  go_ret3
                  exact ⟨ret3I (by rw [HX2.out]; rfl) (by rw [HX2.out]; rfl) (by rw [HX2.out]; rfl), lb_alloc HB2.out _⟩
                · have HS2 : Hid _ := fst_step HS.out (unS_no (Or.inr (by rw [← HX.out]; exact hy)))
                  go_wp2
                  go_roundw
                  case rel => exact ⟨j + 1, by go_num, by omega, HS2, lb_alloc HB2.out _⟩
                  case measure => simp [intOf]; omega
            · have hjl' : ¬ (j : Int) < ((ob l k).ss.length : Int) := by omega
              have HN2 : Hid _ := fst_step HN.out (show unO l k = none from fst_none (fun m hm => HS.out m (by omega)))
              go_wp2
              go_roundw
              case rel => exact ⟨k + 1, by go_num, by omega, HN2, HB1⟩
              case measure => simp [intOf]; omega
        · have hkl' : ¬ (k : Int) < (l.length : Int) := by omega
          have HX2 : Hid (namL l = none) := by rw [Hid, HT.out]; exact fst_none (fun j hj => HN.out j (by omega))
          go_wp2
          go_ret3
          exact ⟨ret3I (by rw [HX2.out]; rfl) (by rw [HX2.out]; rfl) (by rw [HX2.out]; rfl), HB.out⟩


end Go.Proofs.Ytiihfkjgdhfmiaa

namespace Go.Proofs.Ytiihfkjgdhfmiaa
open Go.RowKit

theorem info37 : ∃ i, Try.prog.info? 37 = some i ∧ i.zero = some (.agg #[.int .i64 0, .int .i64 0]) ∧ i.size = 2 ∧ i.bytes = 16 :=
  ⟨(Try.prog.info? 37).get (by kernel_rfl), by kernel_rfl, by kernel_rfl, by kernel_rfl, by kernel_rfl⟩
theorem info59 : ∃ i, Try.prog.info? 70 = some i ∧ i.zero = some (.slice none 0 0) ∧ i.size = 1 ∧ i.bytes = 24 :=
  ⟨(Try.prog.info? 70).get (by kernel_rfl), by kernel_rfl, by kernel_rfl, by kernel_rfl, by kernel_rfl⟩
theorem ret4S {A : Option Addr} {n c : Nat} {a b d e f g : Int} (h1 : a = b) (h2 : d = e) (h3 : f = g) : Ending.returned (.tuple #[.slice A n c, .int .i64 a, .int .i64 d, .int .i64 f]) = .returned (.tuple #[.slice A n c, .int .i64 b, .int .i64 e, .int .i64 g]) := by rw [h1, h2, h3]
theorem res_err {TS TD : TypeId} {l : List Ob} {w w1 : World} {x : Int × Int × Int} (h : resE l = some x) (hb : Below w.heap.size w w1) : ResP TS TD l w (.returned (.tuple #[.slice none 0 0, .int .i64 x.1, .int .i64 x.2.1, .int .i64 x.2.2])) w1 := by
  have hl : resL l = [] := by unfold resL; rw [h]
  refine ⟨none, 0, [], ?_, ?_, hb⟩
  · rw [hl, h]; rfl
  · rw [hl]; exact RowsD.nil _ _ _ _
theorem two_keep {w0 w1 : World} {g t : Nat} {u v : Value} (h : w0.heap[g]? = some (.cells #[u, v] t (0, 0))) (hb : Below w0.heap.size w0 w1) : w1.cell? ⟨g, 0, none⟩ = some u ∧ w1.cell? ⟨g, 1, none⟩ = some v ∧ w1.frozen? ⟨g, 0, none⟩ = false ∧ w1.frozen? ⟨g, 1, none⟩ = false := by
  have hg : g < w0.heap.size := by
    by_cases hg : g < w0.heap.size
    · exact hg
    · rw [Array.getElem?_eq_none (by omega)] at h; cases h
  have h1 : w1.heap[g]? = some (.cells #[u, v] t (0, 0)) := by rw [hb.block g hg]; exact h
  refine ⟨?_, ?_, ?_, ?_⟩ <;> simp [World.cell?, World.frozen?, h1]
theorem one_two {x y : Int} : ∀ u ∈ [Value.int .i64 x, Value.int .i64 y], u.oneCell' = true := fun u hu => by
  cases hu with
  | head => rfl
  | tail _ h => cases h with
    | head => rfl
    | tail _ h => cases h
set_option maxHeartbeats 8000000 in
set_option maxRecDepth 100000 in
theorem refresolve_any (A : Option Addr) (ca : Nat) (q : Nat → Pl) (l : List Ob) (w : World) (hA : ObsIn w A q l) :
    Calls Try.prog 9 #[.slice A l.length ca] w (ResP 70 37 l w) := by
  obtain ⟨i0, hi, hz0, hz1, hz2⟩ := info37
  obtain ⟨i1, hj, hy0, hy1, hy2⟩ := info59
  have HA : Hid (ObsIn w A q l) := hA
  have hf := hA.few
  have CK := refchkl_any A ca q l w hA
  have CN : Hid (∀ wx, Below w.heap.size w wx → Calls Try.prog 26 #[.slice A l.length ca] wx (ErrP (namL l) wx)) := fun wx hx => refnames_any A ca q l wx (hA.keep hx)
  have C2 : Hid (∀ nm wx, Below w.heap.size w wx → Calls Try.prog 11 #[.slice A l.length ca, .string nm] wx (DefP (findF nm l) wx)) := fun nm wx hx => reffind_any A ca q l nm wx (hA.keep hx)
  clear hA
  cases h1 : chkL l with
  | some x =>
    have he : (x.1 != 0) = true := by simpa using chkL_errs l x h1
    have HX : Hid (resE l = some x) := by unfold Hid resE; rw [h1]
    rw [h1] at CK
    unfold ErrP at CK
    clear h1
    have e1 : t1 (some x) = x.1 := rfl
    have e2 : t2 (some x) = x.2.1 := rfl
    have e3 : t3 (some x) = x.2.2 := rfl
    rw [e1, e2, e3] at CK
    go_enter Try.func9, Try.ntmps9
    go_wp2_with fail
    refine CK.mono ?_
    rintro e w1 ⟨rfl, hb1⟩
    have HB1 : Hid (Below w.heap.size w w1) := hb1
    clear CK hb1
    go_wp2
    exact bodyPost_ret (v := .tuple #[.slice none 0 0, .int .i64 x.1, .int .i64 x.2.1, .int .i64 x.2.2]) (by simp [results, Try.results9, go_sem]) rfl (res_err HX.out HB1.out)
  | none =>
    rw [h1] at CK
    unfold ErrP at CK
    have e1 : t1 none = 0 := rfl
    have e2 : t2 none = 0 := rfl
    have e3 : t3 none = 0 := rfl
    rw [e1, e2, e3] at CK
    have H1 : Hid (resE l = namL l) := by unfold Hid resE; rw [h1]
    clear h1
    go_enter Try.func9, Try.ntmps9
    go_wp2_with fail
    refine CK.mono ?_
    rintro e w1 ⟨rfl, hb1⟩
    have HB1 : Hid (Below w.heap.size w w1) := hb1
    have CM := CN.out w1 hb1
    clear CK hb1 CN
    cases h2 : namL l with
    | some x =>
      have he : (x.1 != 0) = true := by simpa using namL_errs l x h2
      have HX : Hid (resE l = some x) := by rw [Hid, H1.out, h2]
      rw [h2] at CM
      unfold ErrP at CM
      clear h2
      have e1 : t1 (some x) = x.1 := rfl
      have e2 : t2 (some x) = x.2.1 := rfl
      have e3 : t3 (some x) = x.2.2 := rfl
      rw [e1, e2, e3] at CM
      go_wp2_with fail
      refine CM.mono ?_
      rintro e w2 ⟨rfl, hb2⟩
      have HB2 : Hid (Below w.heap.size w w2) := lb_trans HB1.out hb2
      clear CM hb2
      go_wp2
      exact bodyPost_ret (v := .tuple #[.slice none 0 0, .int .i64 x.1, .int .i64 x.2.1, .int .i64 x.2.2]) (by simp [results, Try.results9, go_sem]) rfl (res_err HX.out HB2.out)
    | none =>
      have HX : Hid (resE l = none) := by rw [Hid, H1.out, h2]
      rw [h2] at CM
      unfold ErrP at CM
      clear h2
      rw [e1, e2, e3] at CM
      go_wp2_with fail
      refine CM.mono ?_
      rintro e w2 ⟨rfl, hb2⟩
      have HB2 : Hid (Below w.heap.size w w2) := lb_trans HB1.out hb2
      clear CM hb2 HB1
      go_wp2
      go_loopw [10, 9] (fun i t wr => ∃ (k : Nat) (O : Option Addr) (c : Nat) (vs : List Value), i = .int .i64 k ∧ t = .slice O k c ∧ k ≤ l.length ∧ Hid (RowsD wr w.heap.size 70 37 t vs (rowsT l k)) ∧ Hid (Below w.heap.size w wr)) (fun i _ _ => l.length - (intOf i).toNat)
      case atStart => exact ⟨0, none, 0, [], rfl, rfl, Nat.zero_le _, RowsD.nil _ _ _ _, HB2⟩
      case round =>
        clear HB2
        obtain ⟨k, O, c, vs, rfl, rfl, hk, HR, HB⟩ := hrel
        obtain ⟨wk, hwk⟩ : ∃ x, x = wr := ⟨_, rfl⟩
        subst hwk
        by_cases hkl : k < l.length
        · have hkl' : (k : Int) < (l.length : Int) := by omega
          obtain ⟨a, ea, -⟩ := HA.out.cells k hkl
          subst ea
          go_wp2
          go_loopw [12, 11] (fun i t wr => ∃ (j : Nat) (O1 : Option Addr) (c1 : Nat), i = .int .i64 j ∧ t = .slice O1 j c1 ∧ j ≤ (ob l k).ss.length ∧ Hid (wr.ownsRow wk.heap.size 37 2 t j (dNews (rowT l k j))) ∧ Hid (Below wk.heap.size wk wr)) (fun i _ _ => (ob l k).ss.length - (intOf i).toNat)
          case atStart => exact ⟨0, none, 0, rfl, rfl, Nat.zero_le _, World.ownsRow_nil _ _ _ _, Below.refl _ _⟩
          case round =>
            obtain ⟨j, O1, c1, rfl, rfl, hjj, HQ, HB1⟩ := hrel
            have HBw : Hid (Below w.heap.size w wr) := lb_trans HB.out HB1.out
            obtain ⟨b, eb, x0, x1, x2, x3, x4, x5⟩ := HA.out.cells.six HBw.out k hkl
            obtain rfl := Option.some.inj eb
            have hss := (HA.out.each k hkl).hs
            clear eb x0 x1 x2 x3 x5
            by_cases hjl : j < (ob l k).ss.length
            · have hjl' : (j : Int) < ((ob l k).ss.length : Int) := by omega
              obtain ⟨a3, e3, s0, s1, s2⟩ := (HA.out.each k hkl).sy j hjl
              have t0 := lkeep HBw.out s0
              have t1 : wr.cell? ⟨(a3.add (j * 3)).block, (a3.add (j * 3)).off + 1, none⟩ = some (.int .i8 (sKind (ob l k).ss j)) := lkeep HBw.out s1
              have t2 : wr.cell? ⟨(a3.add (j * 3)).block, (a3.add (j * 3)).off + 2, none⟩ = some (.int .i64 (sAt (ob l k).ss j)) := lkeep HBw.out s2
              rw [e3] at x4
              clear s0 s1 s2 e3
              cases hd : (sKind (ob l k).ss j != 0)
              · have HST : Hid (standS l k j = ((k : Int), sAt (ob l k).ss j)) := by unfold Hid standS; rw [hd]; rfl
                have HBN : Hid (Below wk.heap.size wk (((wr.alloc (.cells #[.string (sName (ob l k).ss j), .int .i8 (sKind (ob l k).ss j), .int .i64 (sAt (ob l k).ss j)] 52)).alloc (.cells #[.int .i64 k, .int .i64 (sAt (ob l k).ss j)] 37)).alloc (.cells #[.int .i64 k, .int .i64 (sAt (ob l k).ss j)] 37))) := lb_alloc (lb_alloc (lb_alloc HB1.out _) _) _
                have HR2 : Hid ((((wr.alloc (.cells #[.string (sName (ob l k).ss j), .int .i8 (sKind (ob l k).ss j), .int .i64 (sAt (ob l k).ss j)] 52)).alloc (.cells #[.int .i64 k, .int .i64 (sAt (ob l k).ss j)] 37)).alloc (.cells #[.int .i64 k, .int .i64 (sAt (ob l k).ss j)] 37)).ownsRow wk.heap.size 37 2 (.slice O1 j c1) j (dNews (rowT l k j))) := own_keep HQ.out (lb_alloc (lb_alloc (lb_alloc (Below.refl _ _) _) _) _)
                have HNW : Hid ((((wr.alloc (.cells #[.string (sName (ob l k).ss j), .int .i8 (sKind (ob l k).ss j), .int .i64 (sAt (ob l k).ss j)] 52)).alloc (.cells #[.int .i64 k, .int .i64 (sAt (ob l k).ss j)] 37)).alloc (.cells #[.int .i64 k, .int .i64 (sAt (ob l k).ss j)] 37)).heap[wr.heap.size + 1 + 1]? = some (.cells #[.int .i64 k, .int .i64 (sAt (ob l k).ss j)] 37 (0, 0))) := by have := heap_alloc_new ((wr.alloc (.cells #[.string (sName (ob l k).ss j), .int .i8 (sKind (ob l k).ss j), .int .i64 (sAt (ob l k).ss j)] 52)).alloc (.cells #[.int .i64 k, .int .i64 (sAt (ob l k).ss j)] 37)) (.cells #[.int .i64 k, .int .i64 (sAt (ob l k).ss j)] 37); simpa [Hid] using this
                go_wp2_with (at_builtin; go_loud (refine wpList_append_own _ rfl (.tmp 75) (.tmp 77) 70 rfl wk.heap.size 37 i0 (.agg #[.int .i64 0, .int .i64 0]) 2 16 Try.underlying70 hi hz0 hz1 hz2 rfl (by decide) (.slice O1 j c1) j (dNews (rowT l k j)) rfl HR2.out ⟨wr.heap.size + 1 + 1, 0, none⟩ 1 1 [.int .i64 k, .int .i64 (sAt (ob l k).ss j)] rfl rfl (fun j u hu => World.news_of_block HNW.out j u hu) one_two (by unfold maxLen; omega) (by omega) HBN.out.size ?_; intro v3 w3 hown hgrow _; have HR3 : Hid (w3.ownsRow wk.heap.size 37 2 v3 (j + 1) (dNews (rowT l k (j + 1)))) := (by rw [rowT_succ, dNews_snoc, HST.out]; exact hown); have HB3 : Hid (Below wk.heap.size wk w3) := HBN.out.grown hgrow HBN.out.size (fun b hb => (HR2.out.lt b hb).1); clear hown hgrow))
                obtain ⟨A5, c5, e5, -⟩ := own_any HR3.out
                subst e5
                go_roundw
                case rel => exact ⟨j + 1, _, _, by go_num, rfl, by omega, HR3, HB3⟩
                case measure => simp [intOf]; omega
              · obtain ⟨x, hx⟩ : ∃ x, x = findF (sName (ob l k).ss j) l := ⟨_, rfl⟩
                have HST : Hid (standS l k j = ((dfI x : Int), dfA x)) := by unfold Hid standS; rw [hd, hx]; rfl
                have CF := C2.out (sName (ob l k).ss j) ((wr.alloc (.cells #[.string (sName (ob l k).ss j), .int .i8 (sKind (ob l k).ss j), .int .i64 (sAt (ob l k).ss j)] 52)).alloc (.cells #[.int .i64 k, .int .i64 (sAt (ob l k).ss j)] 37)) (lb_alloc (lb_alloc HBw.out _) _)
                rw [← hx] at CF
                unfold DefP at CF
                clear hx
                go_wp2_with fail
                refine CF.mono ?_
                rintro e w5 ⟨rfl, hb5⟩
                obtain ⟨z0, z1, y0, y1⟩ := two_keep (g := wr.heap.size + 1) (u := .int .i64 k) (v := .int .i64 (sAt (ob l k).ss j)) (by have := heap_alloc_new (wr.alloc (.cells #[.string (sName (ob l k).ss j), .int .i8 (sKind (ob l k).ss j), .int .i64 (sAt (ob l k).ss j)] 52)) (.cells #[.int .i64 k, .int .i64 (sAt (ob l k).ss j)] 37); simpa using this) hb5
                have HB5 : Hid (Below wr.heap.size wr w5) := lb_trans (lb_alloc (lb_alloc (Below.refl _ _) _) _) hb5
                have HB6 : Hid (Below wr.heap.size wr (((w5.setCell ⟨wr.heap.size + 1, 0, none⟩ (.int .i64 (dfI x))).setCell ⟨wr.heap.size + 1, 1, none⟩ (.int .i64 (dfA x))).alloc (.cells #[.int .i64 (dfI x), .int .i64 (dfA x)] 37))) := lb_alloc ((HB5.out.setCell (Nat.le_succ _) _).setCell (Nat.le_succ _) _) _
                have HBN : Hid (Below wk.heap.size wk (((w5.setCell ⟨wr.heap.size + 1, 0, none⟩ (.int .i64 (dfI x))).setCell ⟨wr.heap.size + 1, 1, none⟩ (.int .i64 (dfA x))).alloc (.cells #[.int .i64 (dfI x), .int .i64 (dfA x)] 37))) := lb_trans HB1.out HB6.out
                have HR2 : Hid ((((w5.setCell ⟨wr.heap.size + 1, 0, none⟩ (.int .i64 (dfI x))).setCell ⟨wr.heap.size + 1, 1, none⟩ (.int .i64 (dfA x))).alloc (.cells #[.int .i64 (dfI x), .int .i64 (dfA x)] 37)).ownsRow wk.heap.size 37 2 (.slice O1 j c1) j (dNews (rowT l k j))) := own_keep HQ.out HB6.out
                clear CF hb5 t0 t1 t2 x4
                have HNW : Hid ((((w5.setCell ⟨wr.heap.size + 1, 0, none⟩ (.int .i64 (dfI x))).setCell ⟨wr.heap.size + 1, 1, none⟩ (.int .i64 (dfA x))).alloc (.cells #[.int .i64 (dfI x), .int .i64 (dfA x)] 37)).heap[w5.heap.size]? = some (.cells #[.int .i64 (dfI x), .int .i64 (dfA x)] 37 (0, 0))) := by have := heap_alloc_new ((w5.setCell ⟨wr.heap.size + 1, 0, none⟩ (.int .i64 (dfI x))).setCell ⟨wr.heap.size + 1, 1, none⟩ (.int .i64 (dfA x))) (.cells #[.int .i64 (dfI x), .int .i64 (dfA x)] 37); simpa [Hid, World.setCell] using this
                go_wp2_with (at_builtin; go_loud (refine wpList_append_own _ rfl (.tmp 75) (.tmp 77) 70 rfl wk.heap.size 37 i0 (.agg #[.int .i64 0, .int .i64 0]) 2 16 Try.underlying70 hi hz0 hz1 hz2 rfl (by decide) (.slice O1 j c1) j (dNews (rowT l k j)) rfl HR2.out ⟨w5.heap.size, 0, none⟩ 1 1 [.int .i64 (dfI x), .int .i64 (dfA x)] rfl rfl (fun j u hu => World.news_of_block HNW.out j u hu) one_two (by unfold maxLen; omega) (by omega) HBN.out.size ?_; intro v3 w3 hown hgrow _; have HR3 : Hid (w3.ownsRow wk.heap.size 37 2 v3 (j + 1) (dNews (rowT l k (j + 1)))) := (by rw [rowT_succ, dNews_snoc, HST.out]; exact hown); have HB3 : Hid (Below wk.heap.size wk w3) := HBN.out.grown hgrow HBN.out.size (fun b hb => (HR2.out.lt b hb).1); clear hown hgrow))
                obtain ⟨A5, c5, e5, -⟩ := own_any HR3.out
                subst e5
                go_roundw
                case rel => exact ⟨j + 1, _, _, by go_num, rfl, by omega, HR3, HB3⟩
                case measure => simp [intOf]; omega
            · have hjl' : ¬ (j : Int) < ((ob l k).ss.length : Int) := by omega
              obtain rfl : j = (ob l k).ss.length := by omega
              have HRk : Hid (RowsD (wr.alloc (.cells #[.slice O1 (ob l k).ss.length c1] 70)) w.heap.size 70 37 (.slice O k c) vs (rowsT l k)) := HR.out.keep (lb_alloc HB1.out _)
              have HRb : Hid ((wr.alloc (.cells #[.slice O1 (ob l k).ss.length c1] 70)).ownsRow w.heap.size 70 1 (.slice O k c) k vs) := by have := HRk.out.bag; rwa [rowsT_len] at this
              have HRr : Hid ((wr.alloc (.cells #[.slice O1 (ob l k).ss.length c1] 70)).ownsRow w.heap.size 37 2 (.slice O1 (ob l k).ss.length c1) (rowT l k (ob l k).ss.length).length (dNews (rowT l k (ob l k).ss.length))) := by rw [rowT_len]; exact own_base (own_keep HQ.out (lb_alloc (Below.refl _ _) _)) HB.out.size
              have HBa : Hid (Below w.heap.size w (wr.alloc (.cells #[.slice O1 (ob l k).ss.length c1] 70))) := lb_alloc HBw.out _
              go_wp2_with (at_builtin; refine wpList_append_own _ rfl (.tmp 79) (.tmp 81) 30 rfl w.heap.size 70 i1 (.slice none 0 0) 1 24 Try.underlying30 hj hy0 hy1 hy2 rfl (by decide) (.slice O k c) k vs rfl HRb.out ⟨wr.heap.size, 0, none⟩ 1 1 [.slice O1 (ob l k).ss.length c1] rfl rfl (fun j u hu => World.news_of_block (heap_alloc_new _ _) j u hu) (fun u hu => by cases hu with | head => rfl | tail _ h => cases h) (by unfold maxLen; omega) (by omega) HBa.out.size ?_; intro v3 w3 hown hgrow _; have HR3 : Hid (RowsD w3 w.heap.size 70 37 v3 (vs ++ [.slice O1 (ob l k).ss.length c1]) (rowsT l (k + 1))) := (by rw [rowsT_succ]; exact HRk.out.add (by decide) HRr.out (by rw [rowsT_len]; exact hown) hgrow); have HB3 : Hid (Below w.heap.size w w3) := HBa.out.grown hgrow HBa.out.size (fun b hb => (HRb.out.lt b hb).1); have HO3 : Hid (w3.ownsRow w.heap.size 70 1 v3 (k + 1) (vs ++ [.slice O1 (ob l k).ss.length c1])) := hown; clear hown hgrow)
              obtain ⟨A5, c5, e5, -⟩ := own_any HO3.out
              subst e5
              go_roundw
              case rel => exact ⟨k + 1, _, _, _, by go_num, rfl, by omega, HR3, HB3⟩
              case measure => simp [intOf]; omega
        · have hkl' : ¬ (k : Int) < (l.length : Int) := by omega
          obtain rfl : k = l.length := by omega
          have HL : Hid (resL l = rowsT l l.length) := by unfold Hid resL; rw [HX.out]
          have HV : Hid (ResP 70 37 l w (.returned (.tuple #[.slice O l.length c, .int .i64 0, .int .i64 0, .int .i64 0])) wk) := by
            refine ⟨O, c, vs, ?_, ?_, HB.out⟩
            · rw [HL.out, rowsT_len, HX.out]; rfl
            · rw [HL.out, rowsT_len]; exact HR.out
          go_wp2
          exact bodyPost_ret (v := .tuple #[.slice O l.length c, .int .i64 0, .int .i64 0, .int .i64 0]) (by simp [results, Try.results9, go_sem]) rfl HV.out


end Go.Proofs.Ytiihfkjgdhfmiaa
