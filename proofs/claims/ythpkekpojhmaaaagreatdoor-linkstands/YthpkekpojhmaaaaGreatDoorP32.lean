/-
  Find of the document: what a name stands for. names of the document: what is asked of the symbols. learnAll: the names of all symbols. The finders: how a symbol of each kind is found.
-/
import Derived.Test.YthpkekpojhmaaaaGreatDoorProg
import Derived.WalkKit
import Derived.WalkSpells
import Derived.WalkLawsBesides
import Derived.RowKit3
import Derived.Below
import Derived.Deep.QuietTactic
import Derived.BigQuiet
import Derived.WalkSmall
import Derived.Laws.Rows
import Derived.Test.YthpkekpojhmaaaaGreatDoorP31
import Derived.Test.YthpkekpojhmaaaaGreatDoorP09
namespace Go.Proofs.YthpkekpojhmaaaaGreatDoor
open Go.RowKit

theorem few_len {w : World} {A : Option Addr} {q : Nat → Pl} {l : List Ob} (h : ObsIn w A q l) : (l.length : Int) ≤ 64 := by have := h.few; omega
set_option maxHeartbeats 4000000 in
set_option maxRecDepth 100000 in
theorem reffind_any (A : Option Addr) (ca : Nat) (q : Nat → Pl) (l : List Ob) (nm : ByteArray) (w : World) (hA : ObsIn w A q l) :
    Calls Tryz.prog 42 #[.slice A l.length ca, .string nm] w (DefP (findF nm l) w) := by
  obtain ⟨w0, hw0⟩ : ∃ w0, w0 = w.alloc (.cells #[.int .i64 0, .int .i64 0] 106) := ⟨_, rfl⟩
  have hb0 : Below w.heap.size w w0 := by rw [hw0]; exact lb_alloc (Below.refl _ _) _
  have HZ : Hid (w0.heap[w.heap.size]? = some (.cells #[.int .i64 0, .int .i64 0] 106 (0, 0))) := by rw [hw0]; show (w.heap.push _)[w.heap.size]? = _; simp
  have HB0 : Hid (Below w.heap.size w w0) := hb0
  have CF : Hid (∀ kd wx, Below w.heap.size w wx → Calls Tryz.prog 98 #[.slice A l.length ca, .string nm, .int .i8 kd, .int .i64 l.length, .int .i64 0] wx (DefP (firstF nm kd l l.length 0) wx)) := fun kd wx hx => reffirst_any A ca q l nm kd l.length 0 wx (hA.keep hx) hA.few (by omega)
  have hf := hA.few
  clear hA hb0
  have C1 := CF.out 1 w0 HB0.out
  obtain ⟨x, hx⟩ : ∃ x, x = firstF nm 1 l l.length 0 := ⟨_, rfl⟩
  rw [← hx] at C1
  unfold DefP at C1
  have HX : Hid (x = firstF nm 1 l l.length 0) := hx
  clear hx
  go_enter Tryz.func42, Tryz.ntmps42
  go_wp2_with fail
  rw [← hw0]
  refine C1.mono ?_
  rintro e w1 ⟨rfl, hb1⟩
  have HB1 : Hid (Below w0.heap.size w0 w1) := hb1
  clear C1 hb1
  cases x with
  | some x =>
    have HF : Hid (findF nm l = some x) := by unfold Hid findF; rw [← HX.out]
    obtain ⟨z0, z1, y0, y1⟩ := res_keep (w1 := w1.alloc (.cells #[.int .i64 x.1, .int .i64 x.2] 106)) HZ.out (lb_alloc HB1.out _)
    have HBz : Hid (Below w.heap.size w (w1.alloc (.cells #[.int .i64 x.1, .int .i64 x.2] 106))) := lb_trans HB0.out (lb_alloc HB1.out _)
    have e1 : dfI (some x) = x.1 := rfl
    have e2 : dfA (some x) = x.2 := rfl
    have e3 : (some x).isSome = true := rfl
    rw [e1, e2, e3]
    go_wp2
    refine bodyPost_ret (v := .tuple #[.agg #[.int .i64 x.1, .int .i64 x.2], .bool true]) (by simp [results, Tryz.results42, go_sem, z0, z1]) rfl ⟨?_, (HBz.out.setCell (Nat.le_refl _) _).setCell (Nat.le_refl _) _⟩
    rw [HF.out]; rfl
  | none =>
    have HF : Hid (findF nm l = firstF nm 2 l l.length 0) := by unfold Hid findF; rw [← HX.out]
    have C2 := CF.out 2 (w1.alloc (.cells #[.int .i64 0, .int .i64 0] 106)) (lb_trans HB0.out (lb_alloc HB1.out _))
    rw [← HF.out] at C2
    unfold DefP at C2
    have e1 : dfI none = 0 := rfl
    have e2 : dfA none = 0 := rfl
    have e3 : (none : Option (Nat × Int)).isSome = false := rfl
    rw [e1, e2, e3]
    go_wp2_with fail
    refine C2.mono ?_
    rintro e w2 ⟨rfl, hb2⟩
    obtain ⟨z0, z1, y0, y1⟩ := res_keep (w1 := w2) HZ.out (lb_trans (lb_alloc HB1.out _) hb2)
    have HBz : Hid (Below w.heap.size w w2) := lb_trans HB0.out (lb_trans (lb_alloc HB1.out _) hb2)
    clear C2 hb2
    generalize hX : findF nm l = X
    go_wp2
    exact bodyPost_ret (v := .tuple #[.agg #[.int .i64 (dfI X), .int .i64 (dfA X)], .bool X.isSome]) (by simp [results, Tryz.results42, go_sem, z0, z1]) rfl ⟨by rw [hX], (HBz.out.setCell (Nat.le_refl _) _).setCell (Nat.le_refl _) _⟩



end Go.Proofs.YthpkekpojhmaaaaGreatDoor

namespace Go.Proofs.YthpkekpojhmaaaaGreatDoor
open Go.RowKit

theorem twS_no {l : List Ob} {i k : Nat} (h : (sKind (ob l i).ss k == 1) = false ∨ (firstF (sName (ob l i).ss k) 1 l i k).isSome = false) : twS l i k = none := by
  unfold twS
  rw [if_neg]
  rintro ⟨h1, h2⟩
  rcases h with h | h
  · rw [h1] at h; cases h
  · rw [h2] at h; cases h
theorem twS_yes {l : List Ob} {i k : Nat} (h : (sKind (ob l i).ss k == 1) = true) (h2 : (firstF (sName (ob l i).ss k) 1 l i k).isSome = true) : twS l i k = some (26, (i : Int), (k : Int)) := by
  unfold twS
  rw [if_pos ⟨h, h2⟩]
theorem unS_no {l : List Ob} {i k : Nat} (h : (sKind (ob l i).ss k == 3) = false ∨ (findF (sName (ob l i).ss k) l).isSome = true) : unS l i k = none := by
  unfold unS
  rw [if_neg]
  rintro ⟨h1, h2⟩
  rcases h with h | h
  · rw [h1] at h; cases h
  · rw [h2] at h; cases h
theorem unS_yes {l : List Ob} {i k : Nat} (h : (sKind (ob l i).ss k == 3) = true) (h2 : (findF (sName (ob l i).ss k) l).isSome = false) : unS l i k = some (40, (i : Int), (k : Int)) := by
  unfold unS
  rw [if_pos ⟨h, h2⟩]
set_option maxHeartbeats 8000000 in
set_option maxRecDepth 100000 in
theorem refnames_any (A : Option Addr) (ca : Nat) (q : Nat → Pl) (l : List Ob) (w : World) (hA : ObsIn w A q l) :
    Calls Tryz.prog 97 #[.slice A l.length ca] w (ErrP (namL l) w) := by
  have HA : Hid (ObsIn w A q l) := hA
  have hf := hA.few
  have C1 : Hid (∀ nm (o s : Nat) wx, Below w.heap.size w wx → o ≤ 64 → s ≤ 1048576 → Calls Tryz.prog 98 #[.slice A l.length ca, .string nm, .int .i8 1, .int .i64 o, .int .i64 s] wx (DefP (firstF nm 1 l o s) wx)) := fun nm o s wx hx ho hs => reffirst_any A ca q l nm 1 o s wx (hA.keep hx) ho hs
  have C2 : Hid (∀ nm wx, Below w.heap.size w wx → Calls Tryz.prog 42 #[.slice A l.length ca, .string nm] wx (DefP (findF nm l) wx)) := fun nm wx hx => reffind_any A ca q l nm wx (hA.keep hx)
  clear hA
  go_enter Tryz.func97, Tryz.ntmps97
  go_wp2
  go_loopw [5] (fun i wr => ∃ k : Nat, i = .int .i64 k ∧ k ≤ l.length ∧ Hid (∀ j, j < k → twO l j = none) ∧ Hid (Below w.heap.size w wr)) (fun i _ => l.length - (intOf i).toNat)
  case atStart => exact ⟨0, rfl, Nat.zero_le _, fun j hj => absurd hj (Nat.not_lt_zero _), Below.refl _ _⟩
  case round =>
    obtain ⟨k, rfl, hk, HN, HB⟩ := hrel
    by_cases hkl : k < l.length
    · have hkl' : (k : Int) < (l.length : Int) := by omega
      obtain ⟨a, ea, -⟩ := HA.out.cells k hkl
      subst ea
      go_wp2
      go_loopw [6] (fun i wr => ∃ j : Nat, i = .int .i64 j ∧ j ≤ (ob l k).ss.length ∧ Hid (∀ m, m < j → twS l k m = none) ∧ Hid (Below w.heap.size w wr)) (fun i _ => (ob l k).ss.length - (intOf i).toNat)
      case atStart => exact ⟨0, rfl, Nat.zero_le _, fun j hj => absurd hj (Nat.not_lt_zero _), HB⟩
      case round =>
        clear HB
        obtain ⟨j, rfl, hj, HS, HB1⟩ := hrel
        obtain ⟨b, eb, x0, x1, x2, x3, x4, x5⟩ := HA.out.cells.six HB1.out k hkl
        obtain rfl := Option.some.inj eb
        have hss := (HA.out.each k hkl).hs
        clear eb x0 x1 x2 x3 x5
        by_cases hjl : j < (ob l k).ss.length
        · have hjl' : (j : Int) < ((ob l k).ss.length : Int) := by omega
          obtain ⟨a3, e3, s0, s1, s2⟩ := (HA.out.each k hkl).sy j hjl
          have t0 := lkeep HB1.out s0
          have t1 : wr.cell? ⟨(a3.add (j * 3)).block, (a3.add (j * 3)).off + 1, none⟩ = some (.int .i8 (sKind (ob l k).ss j)) := lkeep HB1.out s1
          have t2 : wr.cell? ⟨(a3.add (j * 3)).block, (a3.add (j * 3)).off + 2, none⟩ = some (.int .i64 (sAt (ob l k).ss j)) := lkeep HB1.out s2
          rw [e3] at x4
          clear s0 s1 s2 e3
          have CF := C1.out (sName (ob l k).ss j) k j (wr.alloc (.cells #[.string (sName (ob l k).ss j), .int .i8 (sKind (ob l k).ss j), .int .i64 (sAt (ob l k).ss j)] 131)) (lb_alloc HB1.out _) (by omega) (by omega)
          obtain ⟨x, hx⟩ : ∃ x, x = firstF (sName (ob l k).ss j) 1 l k j := ⟨_, rfl⟩
          rw [← hx] at CF
          unfold DefP at CF
          have HX : Hid (x = firstF (sName (ob l k).ss j) 1 l k j) := hx
          clear hx
          go_wp2_with fail
          refine CF.mono ?_
          rintro e w1 ⟨rfl, hb1⟩
          have g1 : (w1.alloc (.cells #[.int .i64 (dfI x), .int .i64 (dfA x)] 106)).cell? ⟨wr.heap.size, 1, none⟩ = some (.int .i8 (sKind (ob l k).ss j)) := lkeep (lb_alloc (Below.refl _ _) _) (lkeep hb1 (by simp [go_sem]))
          have HB2 : Hid (Below w.heap.size w w1) := lb_trans (lb_alloc HB1.out _) hb1
          clear CF hb1 t0 t1 t2 x4
          cases hd : (sKind (ob l k).ss j == 1)
          · have HS2 : Hid _ := fst_step HS.out (twS_no (Or.inl hd))
            go_wp2
            go_roundw
            case rel => exact ⟨j + 1, by go_num, by omega, HS2, lb_alloc HB2.out _⟩
            case measure => simp [intOf]; omega
          · cases hy : x.isSome
            · have HS2 : Hid _ := fst_step HS.out (twS_no (Or.inr (by rw [← HX.out]; exact hy)))
              go_wp2
              go_roundw
              case rel => exact ⟨j + 1, by go_num, by omega, HS2, lb_alloc HB2.out _⟩
              case measure => simp [intOf]; omega
            · have HX2 : Hid (namL l = some (26, (k : Int), (j : Int))) := by
                unfold Hid namL
                rw [fst_hit HN.out (show twO l k = some (26, (k : Int), (j : Int)) from fst_hit HS.out (twS_yes hd (by rw [← HX.out]; exact hy)) hjl) hkl]
              go_wp2
              go_ret3
              exact ⟨ret3I (by rw [HX2.out]; rfl) (by rw [HX2.out]; rfl) (by rw [HX2.out]; rfl), lb_alloc HB2.out _⟩
        · have hjl' : ¬ (j : Int) < ((ob l k).ss.length : Int) := by omega
          have HN2 : Hid _ := fst_step HN.out (show twO l k = none from fst_none (fun m hm => HS.out m (by omega)))
          go_wp2
          go_roundw
          case rel => exact ⟨k + 1, by go_num, by omega, HN2, HB1⟩
          case measure => simp [intOf]; omega
    · have hkl' : ¬ (k : Int) < (l.length : Int) := by omega
      have HT : Hid (namL l = fstN (unO l) l.length) := by
        unfold Hid namL
        rw [fst_none (fun j hj => HN.out j (by omega))]
      clear HN
      go_wp2
      go_loopw [10] (fun i wr => ∃ k : Nat, i = .int .i64 k ∧ k ≤ l.length ∧ Hid (∀ j, j < k → unO l j = none) ∧ Hid (Below w.heap.size w wr)) (fun i _ => l.length - (intOf i).toNat)
      case atStart => exact ⟨0, rfl, Nat.zero_le _, fun j hj => absurd hj (Nat.not_lt_zero _), HB⟩
      case round =>
        clear HB hk hkl hkl'
        obtain ⟨k, rfl, hk, HN, HB⟩ := hrel
        by_cases hkl : k < l.length
        · have hkl' : (k : Int) < (l.length : Int) := by omega
          obtain ⟨a, ea, -⟩ := HA.out.cells k hkl
          subst ea
          go_wp2
          go_loopw [11] (fun i wr => ∃ j : Nat, i = .int .i64 j ∧ j ≤ (ob l k).ss.length ∧ Hid (∀ m, m < j → unS l k m = none) ∧ Hid (Below w.heap.size w wr)) (fun i _ => (ob l k).ss.length - (intOf i).toNat)
          case atStart => exact ⟨0, rfl, Nat.zero_le _, fun j hj => absurd hj (Nat.not_lt_zero _), HB⟩
          case round =>
            clear HB
            obtain ⟨j, rfl, hj, HS, HB1⟩ := hrel
            obtain ⟨b, eb, x0, x1, x2, x3, x4, x5⟩ := HA.out.cells.six HB1.out k hkl
            obtain rfl := Option.some.inj eb
            have hss := (HA.out.each k hkl).hs
            clear eb x0 x1 x2 x3 x5
            by_cases hjl : j < (ob l k).ss.length
            · have hjl' : (j : Int) < ((ob l k).ss.length : Int) := by omega
              obtain ⟨a3, e3, s0, s1, s2⟩ := (HA.out.each k hkl).sy j hjl
              have t0 := lkeep HB1.out s0
              have t1 : wr.cell? ⟨(a3.add (j * 3)).block, (a3.add (j * 3)).off + 1, none⟩ = some (.int .i8 (sKind (ob l k).ss j)) := lkeep HB1.out s1
              have t2 : wr.cell? ⟨(a3.add (j * 3)).block, (a3.add (j * 3)).off + 2, none⟩ = some (.int .i64 (sAt (ob l k).ss j)) := lkeep HB1.out s2
              rw [e3] at x4
              clear s0 s1 s2 e3
              have CF := C2.out (sName (ob l k).ss j) (wr.alloc (.cells #[.string (sName (ob l k).ss j), .int .i8 (sKind (ob l k).ss j), .int .i64 (sAt (ob l k).ss j)] 131)) (lb_alloc HB1.out _)
              obtain ⟨x, hx⟩ : ∃ x, x = findF (sName (ob l k).ss j) l := ⟨_, rfl⟩
              rw [← hx] at CF
              unfold DefP at CF
              have HX : Hid (x = findF (sName (ob l k).ss j) l) := hx
              clear hx
              go_wp2_with fail
              refine CF.mono ?_
              rintro e w1 ⟨rfl, hb1⟩
              have g1 : (w1.alloc (.cells #[.int .i64 (dfI x), .int .i64 (dfA x)] 106)).cell? ⟨wr.heap.size, 1, none⟩ = some (.int .i8 (sKind (ob l k).ss j)) := lkeep (lb_alloc (Below.refl _ _) _) (lkeep hb1 (by simp [go_sem]))
              have HB2 : Hid (Below w.heap.size w w1) := lb_trans (lb_alloc HB1.out _) hb1
              clear CF hb1 t0 t1 t2 x4
              cases hd : (sKind (ob l k).ss j == 3)
              · have HS2 : Hid _ := fst_step HS.out (unS_no (Or.inl hd))
                go_wp2
                go_roundw
                case rel => exact ⟨j + 1, by go_num, by omega, HS2, lb_alloc HB2.out _⟩
                case measure => simp [intOf]; omega
              · cases hy : x.isSome
                · have HX2 : Hid (namL l = some (40, (k : Int), (j : Int))) := by
                    rw [Hid, HT.out]
                    exact fst_hit HN.out (show unO l k = some (40, (k : Int), (j : Int)) from fst_hit HS.out (unS_yes hd (by rw [← HX.out]; exact hy)) hjl) hkl
                  go_wp2
                  go_ret3
                  exact ⟨ret3I (by rw [HX2.out]; rfl) (by rw [HX2.out]; rfl) (by rw [HX2.out]; rfl), lb_alloc HB2.out _⟩
                · have HS2 : Hid _ := fst_step HS.out (unS_no (Or.inr (by rw [← HX.out]; exact hy)))
                  go_wp2
                  go_roundw
                  case rel => exact ⟨j + 1, by go_num, by omega, HS2, lb_alloc HB2.out _⟩
                  case measure => simp [intOf]; omega
            · have hjl' : ¬ (j : Int) < ((ob l k).ss.length : Int) := by omega
              have HN2 : Hid _ := fst_step HN.out (show unO l k = none from fst_none (fun m hm => HS.out m (by omega)))
              go_wp2
              go_roundw
              case rel => exact ⟨k + 1, by go_num, by omega, HN2, HB1⟩
              case measure => simp [intOf]; omega
        · have hkl' : ¬ (k : Int) < (l.length : Int) := by omega
          have HX2 : Hid (namL l = none) := by rw [Hid, HT.out]; exact fst_none (fun j hj => HN.out j (by omega))
          go_wp2
          go_ret3
          exact ⟨ret3I (by rw [HX2.out]; rfl) (by rw [HX2.out]; rfl) (by rw [HX2.out]; rfl), HB.out⟩



end Go.Proofs.YthpkekpojhmaaaaGreatDoor

namespace Go.Proofs.YthpkekpojhmaaaaGreatDoor
open Go.RowKit

open Go.Maps Go.WideMaps
def seenA (l : List Ob) (o s : Nat) (x : ByteArray) : Option ((Nat × Int) × Int) := seenF x l o s
/-- An answer of learnAll. -/
def LearnP (l : List Ob) (w : World) (e : Ending) (w' : World) : Prop :=
  (∃ x, fstN (twO l) l.length = some x ∧ e = .returned (.tuple #[.map none, .int .i64 x.1, .int .i64 x.2.1, .int .i64 x.2.2]) ∧ Below w.heap.size w w') ∨
  (fstN (twO l) l.length = none ∧ ∃ n, e = .returned (.tuple #[.map (some w.heap.size), .int .i64 0, .int .i64 0, .int .i64 0]) ∧ Knows w' w.heap.size n (seenA l l.length 0) ∧ Below w.heap.size w w')
theorem field73 (x y z : Value) (w : World) : (Instr.field 134 (.agg #[x, y, z]) 1).run Tryz.prog w = .ok z w := by kernel_rfl
set_option maxHeartbeats 4000000 in
set_option maxRecDepth 100000 in
theorem plearn_any (A : Option Addr) (ca : Nat) (q : Nat → Pl) (l : List Ob) (w : World) (hA : ObsIn w A q l) :
    Calls Tryz.prog 71 #[.slice A l.length ca] w (LearnP l w) := by
  have hmm := mk62
  have hfl := field73
  obtain ⟨w0, hw0⟩ : ∃ w0, w0 = w.alloc (.map #[] 0) := ⟨_, rfl⟩
  have hk0 : Knows w0 w.heap.size 0 (seenA l 0 0) := by rw [hw0]; exact (Knows.made w).fit fun x => (seen_zero x l).symm
  have HB0 : Hid (Below w.heap.size w w0) := by rw [Hid, hw0]; exact lb_alloc (Below.refl _ _) _
  have HA : Hid (ObsIn w A q l) := hA
  have hf := hA.few
  clear hA
  go_enter Tryz.func71, Tryz.ntmps71
  go_wp2
  rw [← hw0]
  go_loopw [14] (fun i wr => ∃ (k n : Nat), i = .int .i64 k ∧ k ≤ l.length ∧ n ≤ 1048576 * k ∧ Hid (Knows wr w.heap.size n (seenA l k 0)) ∧ Hid (∀ i, i < k → twO l i = none) ∧ Hid (w0.grownBy wr (some w.heap.size))) (fun i _ => l.length - (intOf i).toNat)
  case atStart => exact ⟨0, 0, rfl, Nat.zero_le _, Nat.zero_le _, hk0, fun i hi => absurd hi (Nat.not_lt_zero _), ⟨rfl, rfl, rfl, Nat.le_refl _, fun _ _ _ => rfl⟩⟩
  case round =>
    obtain ⟨k, n, rfl, hk, hn, HK, HN, HG⟩ := hrel
    by_cases hkl : k < l.length
    · have hkl' : (k : Int) < (l.length : Int) := by omega
      have HBw : Hid (Below w.heap.size w wr) := grown_below HB0.out HG.out (Nat.le_refl _) HB0.out.size
      obtain ⟨a, ea, x0, x1, x2, x3, x4, x5⟩ := HA.out.cells.six HBw.out k hkl
      subst ea
      have hss := (HA.out.each k hkl).hs
      go_wp2
      go_loopw [22] (fun i wr => ∃ (j n : Nat), i = .int .i64 j ∧ j ≤ (ob l k).ss.length ∧ n ≤ 1048576 * k + j ∧ Hid (Knows wr w.heap.size n (seenA l k j)) ∧ Hid (∀ m, m < j → twS l k m = none) ∧ Hid (w0.grownBy wr (some w.heap.size))) (fun i _ => (ob l k).ss.length - (intOf i).toNat)
      case atStart => exact ⟨0, n, rfl, Nat.zero_le _, by omega, HK.out.keep (lb_alloc (Below.refl _ _) _), fun i hi => absurd hi (Nat.not_lt_zero _), grown_alloc HG.out _⟩
      case round =>
        clear HK HG HBw x0 x1 x2 x3 x4 x5 hn
        clear n
        obtain ⟨j, n, rfl, hj, hn, HK, HS, HG⟩ := hrel
        have HBw : Hid (Below w.heap.size w wr) := grown_below HB0.out HG.out (Nat.le_refl _) HB0.out.size
        by_cases hjl : j < (ob l k).ss.length
        · have hjl' : (j : Int) < ((ob l k).ss.length : Int) := by omega
          obtain ⟨a3, e3, s0, s1, s2⟩ := (HA.out.each k hkl).sy j hjl
          have t0 := lkeep HBw.out s0
          have t1 : wr.cell? ⟨(a3.add (j * 3)).block, (a3.add (j * 3)).off + 1, none⟩ = some (.int .i8 (sKind (ob l k).ss j)) := lkeep HBw.out s1
          have t2 : wr.cell? ⟨(a3.add (j * 3)).block, (a3.add (j * 3)).off + 2, none⟩ = some (.int .i64 (sAt (ob l k).ss j)) := lkeep HBw.out s2
          rw [e3]
          clear s0 s1 s2
          have HKa : Hid (Knows (wr.alloc (.cells #[.string (sName (ob l k).ss j), .int .i8 (sKind (ob l k).ss j), .int .i64 (sAt (ob l k).ss j)] 131)) w.heap.size n (seenA l k j)) := HK.out.keep (lb_alloc (Below.refl _ _) _)
          have CL := learn_any w.heap.size n (seenA l k j) (sName (ob l k).ss j) (sKind (ob l k).ss j) (sAt (ob l k).ss j) k (wr.alloc (.cells #[.string (sName (ob l k).ss j), .int .i8 (sKind (ob l k).ss j), .int .i64 (sAt (ob l k).ss j)] 131)) HKa.out (by omega) ((HA.out.each k hkl).hN j)
          cases hd : (sKind (ob l k).ss j == 1)
          · have HT : Hid (twS l k j = none) := twS_no (Or.inl hd)
            go_wp2_with fail
            refine CL.mono ?_
            rintro e w2 ⟨rfl, hk2, hg2⟩
            have HK2 : Hid (Knows w2 w.heap.size (n + 1) (seenA l k (j + 1))) := hk2.fit fun x => seen_put hkl hjl (fun _ => rfl) HT.out x
            have HG2 : Hid (w0.grownBy w2 (some w.heap.size)) := (grown_alloc HG.out _).trans hg2
            clear CL hk2 hg2
            go_wp2
            go_roundw
            case rel => exact ⟨j + 1, n + 1, by go_num, by omega, by omega, HK2, fst_step HS.out HT.out, HG2⟩
            case measure => simp [intOf]; omega
          · have hl := HKa.out.look ((HA.out.each k hkl).hN j)
            unfold mVal at hl
            cases hm : (mK (seenA l k j (sName (ob l k).ss j)) == 1)
            · have HT : Hid (twS l k j = none) := twS_no (Or.inr (by rw [← seen_kind]; exact hm))
              go_wp2_with fail
              refine CL.mono ?_
              rintro e w2 ⟨rfl, hk2, hg2⟩
              have HK2 : Hid (Knows w2 w.heap.size (n + 1) (seenA l k (j + 1))) := hk2.fit fun x => seen_put hkl hjl (fun _ => rfl) HT.out x
              have HG2 : Hid (w0.grownBy w2 (some w.heap.size)) := (grown_alloc HG.out _).trans hg2
              clear CL hk2 hg2 hl
              go_wp2
              go_roundw
              case rel => exact ⟨j + 1, n + 1, by go_num, by omega, by omega, HK2, fst_step HS.out HT.out, HG2⟩
              case measure => simp [intOf]; omega
            · have HT : Hid (twS l k j = some (26, (k : Int), (j : Int))) := twS_yes hd (by rw [← seen_kind]; exact hm)
              have HX : Hid (fstN (twO l) l.length = some (26, (k : Int), (j : Int))) := fst_hit HN.out (fst_hit HS.out HT.out hjl) hkl
              clear CL
              go_wp2
              refine bodyPost_ret (v := .tuple #[.map none, .int .i64 26, .int .i64 k, .int .i64 j]) (by simp [results, Tryz.results71, go_sem]) rfl (Or.inl ⟨_, HX.out, rfl, lb_alloc HBw.out _⟩)
        · have hjl' : ¬ (j : Int) < ((ob l k).ss.length : Int) := by omega
          obtain rfl : j = (ob l k).ss.length := by omega
          have HK2 : Hid (Knows wr w.heap.size n (seenA l (k + 1) 0)) := HK.out.fit fun x => (seen_next x l hkl).symm
          have HT : Hid (twO l k = none) := fst_none HS.out
          go_wp2
          go_roundw
          case rel => exact ⟨k + 1, n, by go_num, by omega, by omega, HK2, fst_step HN.out HT.out, HG⟩
          case measure => simp [intOf]; omega
    · have hkl' : ¬ (k : Int) < (l.length : Int) := by omega
      obtain rfl : k = l.length := by omega
      have HX : Hid (fstN (twO l) l.length = none) := fst_none HN.out
      have HBw : Hid (Below w.heap.size w wr) := grown_below HB0.out HG.out (Nat.le_refl _) HB0.out.size
      go_wp2
      refine bodyPost_ret (v := .tuple #[.map (some w.heap.size), .int .i64 0, .int .i64 0, .int .i64 0]) (by simp [results, Tryz.results71, go_sem]) rfl (Or.inr ⟨HX.out, n, rfl, HK.out, HBw.out⟩)


end Go.Proofs.YthpkekpojhmaaaaGreatDoor

namespace Go.Proofs.YthpkekpojhmaaaaGreatDoor
open Go.RowKit

open Go.Maps Go.WideMaps
set_option maxHeartbeats 4000000 in
set_option maxRecDepth 100000 in
theorem fown_any (i : Nat) (nm : ByteArray) (kd at_ : Int) (w : World) :
    Calls Tryz.prog 109 #[.int .i64 i, .agg #[.string nm, .int .i8 kd, .int .i64 at_]] w fun e w' => e = .returned (.tuple #[.agg #[.int .i64 i, .int .i64 at_], .bool true]) ∧ w' = (w.alloc (.cells #[.string nm, .int .i8 kd, .int .i64 at_] 131)).alloc (.cells #[.int .i64 i, .int .i64 at_] 69) := by
  go_enter Tryz.func109, Tryz.ntmps109
  go_wp2
  refine bodyPost_ret (v := .tuple #[.agg #[.int .i64 i, .int .i64 at_], .bool true]) (by simp [results, Tryz.results109, go_sem]) rfl ⟨rfl, rfl⟩
set_option maxHeartbeats 4000000 in
set_option maxRecDepth 100000 in
theorem fnamed_any (i : Nat) (nm : ByteArray) (kd at_ : Int) (b n g : Nat) (f : ByteArray → Option ((Nat × Int) × Int)) (w : World) (hk : Knows w b n f) (hs : nm.size ≤ 140737488355328) (hc : w.cell? ⟨g, 0, none⟩ = some (.map (some b))) :
    Calls Tryz.prog 110 #[.int .i64 i, .agg #[.string nm, .int .i8 kd, .int .i64 at_], .pointer (some ⟨g, 0, none⟩)] w fun e w' => e = .returned (.tuple #[.agg #[.int .i64 (mI (f nm)), .int .i64 (mA (f nm))], .bool (f nm).isSome]) ∧ w' = ((w.alloc (.cells #[.string nm, .int .i8 kd, .int .i64 at_] 131)).alloc (.cells #[.int .i64 (mI (f nm)), .int .i64 (mA (f nm))] 69)).alloc (.cells #[.int .i64 (mI (f nm)), .int .i64 (mA (f nm)), .int .i8 (mK (f nm))] 134) := by
  have HK : Hid (Knows ((w.alloc (.cells #[.string nm, .int .i8 kd, .int .i64 at_] 131)).alloc (.cells #[.int .i64 0, .int .i64 0] 69)) b n f) := hk.keep (lb_alloc (lb_alloc (Below.refl _ _) _) _)
  have c1 : ((w.alloc (.cells #[.string nm, .int .i8 kd, .int .i64 at_] 131)).alloc (.cells #[.int .i64 0, .int .i64 0] 69)).cell? ⟨g, 0, none⟩ = some (.map (some b)) := lkeep (lb_alloc (lb_alloc (Below.refl _ _) _) _) hc
  go_enter Tryz.func110, Tryz.ntmps110
  go_wp2_with (at_lookup; refine wpList_look_ok _ rfl _ _ rfl b n f HK.out nm hs rfl rfl ?_; unfold mVal)
  refine bodyPost_ret (v := .tuple #[.agg #[.int .i64 (mI (f nm)), .int .i64 (mA (f nm))], .bool (f nm).isSome]) (by simp [results, Tryz.results110, go_sem]) rfl ⟨rfl, rfl⟩
theorem store_func (fn : Fn) (x y : Array Value) (a : Addr) (m : Mode) (w : World) : (store a (.func fn x y) m).run Tryz.prog w = stored Tryz.prog w a (.func fn x y) m := run_store Tryz.prog w a _ m rfl
def F0 : Value := .func (.func 109) #[] #[]
def F1 (g : Nat) : Value := .func (.func 110) #[] #[.pointer (some ⟨g, 0, none⟩)]
set_option maxHeartbeats 4000000 in
set_option maxRecDepth 100000 in
theorem finders_any (b : Nat) (w : World) : Calls Tryz.prog 73 #[.map (some b)] w fun e w' => e = .returned (.agg #[F0, F1 w.heap.size, F1 w.heap.size, F1 w.heap.size]) ∧ w'.cell? ⟨w.heap.size, 0, none⟩ = some (.map (some b)) ∧ Below w.heap.size w w' := by
  have hmf := mkFn
  have hsf := store_func
  go_enter Tryz.func73, Tryz.ntmps73
  go_wp2
  refine bodyPost_ret (v := .agg #[F0, F1 w.heap.size, F1 w.heap.size, F1 w.heap.size]) (by simp [results, Tryz.results73, go_sem]; exact ⟨rfl, rfl⟩) rfl ⟨rfl, by simp [go_sem], lb_alloc (lb_alloc (Below.refl _ _) _) _⟩


end Go.Proofs.YthpkekpojhmaaaaGreatDoor
