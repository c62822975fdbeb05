/-
  A list of objects in memory, and what is told of it. The weight of a list of objects.
-/
import Derived.Test.YtbckolkgncajfaaGreatDoorProg
import Derived.WalkKit
import Derived.WalkSpells
import Derived.WalkLawsBesides
import Derived.RowKit3
import Derived.Below
import Derived.Deep.QuietTactic
import Derived.BigQuiet
import Derived.WalkSmall
import Derived.Laws.Rows
import Derived.Test.YtbckolkgncajfaaGreatDoorLo35
namespace Go.Proofs.YtbckolkgncajfaaGreatDoor
open Go.RowKit

/-- An object. -/
structure Ob where
  nm : ByteArray
  code : List Int
  dA : Int
  data : List Int
  ss : List Sym
  rs : List Rel
/-- Where its lists lie. -/
structure Pl where
  A1 : Option Addr
  A2 : Option Addr
  A3 : Option Addr
  A4 : Option Addr
  c1 : Nat
  c2 : Nat
  c3 : Nat
  c4 : Nat
def obD : Ob := ⟨⟨#[]⟩, [], 0, [], [], []⟩
def plD : Pl := ⟨none, none, none, none, 0, 0, 0, 0⟩
def ob (l : List Ob) (i : Nat) : Ob := l.getD i obD
/-- An object's cells. -/
def obCells (o : Ob) (p : Pl) : Array Value := #[.string o.nm, .slice p.A1 o.code.length p.c1, .int .i64 o.dA, .slice p.A2 o.data.length p.c2, .slice p.A3 o.ss.length p.c3, .slice p.A4 o.rs.length p.c4]
/-- A list of objects in memory: each cell of each. -/
def ObsAt (w : World) (A : Option Addr) (q : Nat → Pl) (l : List Ob) : Prop := ∀ i, i < l.length → ∃ a : Addr, A = some a ∧ w.cell? (a.add (i * 6)) = some (.string (ob l i).nm) ∧ w.cell? ((a.add (i * 6)).add 1) = some (.slice (q i).A1 (ob l i).code.length (q i).c1) ∧ w.cell? ((a.add (i * 6)).add 2) = some (.int .i64 (ob l i).dA) ∧ w.cell? ((a.add (i * 6)).add 3) = some (.slice (q i).A2 (ob l i).data.length (q i).c2) ∧ w.cell? ((a.add (i * 6)).add 4) = some (.slice (q i).A3 (ob l i).ss.length (q i).c3) ∧ w.cell? ((a.add (i * 6)).add 5) = some (.slice (q i).A4 (ob l i).rs.length (q i).c4)
/-- An object's own lists in memory. -/
def ObIn (w : World) (p : Pl) (o : Ob) : Prop := ObjIn w p.A1 p.A2 p.A3 p.A4 p.c4 o.nm o.code o.dA o.data o.ss o.rs
/-- Both. -/
structure ObsIn (w : World) (A : Option Addr) (q : Nat → Pl) (l : List Ob) : Prop where
  cells : ObsAt w A q l
  each : ∀ i, i < l.length → ObIn w (q i) (ob l i)
  few : l.length ≤ 40
theorem ObsAt.keep {w w1 : World} {A : Option Addr} {q : Nat → Pl} {l : List Ob} (h : ObsAt w A q l) (hb : Below w.heap.size w w1) : ObsAt w1 A q l := fun i hi => by
  obtain ⟨a, e, x0, x1, x2, x3, x4, x5⟩ := h i hi
  exact ⟨a, e, lkeep hb x0, lkeep hb x1, lkeep hb x2, lkeep hb x3, lkeep hb x4, lkeep hb x5⟩
theorem ObsAt.six {w w1 : World} {A : Option Addr} {q : Nat → Pl} {l : List Ob} (h : ObsAt w A q l) (hb : Below w.heap.size w w1) (i : Nat) (hi : i < l.length) : ∃ a : Addr, A = some a ∧ w1.cell? (a.add (i * 6)) = some (.string (ob l i).nm) ∧ w1.cell? ⟨(a.add (i * 6)).block, (a.add (i * 6)).off + 1, none⟩ = some (.slice (q i).A1 (ob l i).code.length (q i).c1) ∧ w1.cell? ⟨(a.add (i * 6)).block, (a.add (i * 6)).off + 2, none⟩ = some (.int .i64 (ob l i).dA) ∧ w1.cell? ⟨(a.add (i * 6)).block, (a.add (i * 6)).off + 3, none⟩ = some (.slice (q i).A2 (ob l i).data.length (q i).c2) ∧ w1.cell? ⟨(a.add (i * 6)).block, (a.add (i * 6)).off + 4, none⟩ = some (.slice (q i).A3 (ob l i).ss.length (q i).c3) ∧ w1.cell? ⟨(a.add (i * 6)).block, (a.add (i * 6)).off + 5, none⟩ = some (.slice (q i).A4 (ob l i).rs.length (q i).c4) := by
  obtain ⟨a, e, x0, x1, x2, x3, x4, x5⟩ := h i hi
  exact ⟨a, e, lkeep hb x0, lkeep hb x1, lkeep hb x2, lkeep hb x3, lkeep hb x4, lkeep hb x5⟩
theorem ObIn.keep {w w1 : World} {p : Pl} {o : Ob} (h : ObIn w p o) (hb : Below w.heap.size w w1) : ObIn w1 p o := ObjIn.keep h hb
theorem ObsIn.keep {w w1 : World} {A : Option Addr} {q : Nat → Pl} {l : List Ob} (h : ObsIn w A q l) (hb : Below w.heap.size w w1) : ObsIn w1 A q l := ⟨h.cells.keep hb, fun i hi => (h.each i hi).keep hb, h.few⟩
/-- An object's text, its error. -/
def obT (o : Ob) : List UInt8 := ansT o.nm o.code o.dA o.data o.ss o.rs
def obE (o : Ob) : Int := (checkC o.nm o.code o.dA o.data.length o.ss o.rs).1
theorem obT_len {w : World} {p : Pl} {o : Ob} (h : ObIn w p o) : (obT o).length ≤ 4194304 := by
  unfold obT ansT
  split
  · exact may_bound h (check_may (by assumption))
  · exact Nat.zero_le _
theorem drop_ob (l : List Ob) (k : Nat) (h : k < l.length) : l.drop k = ob l k :: l.drop (k + 1) := drop_at l obD k h
theorem take_ob (l : List Ob) (k : Nat) (h : k < l.length) : l.take (k + 1) = l.take k ++ [ob l k] := by
  rw [List.take_succ_eq_append_getElem h]
  simp [ob, h]
/-- The first error of a list. -/
def obsE : List Ob → Int
  | [] => 0
  | o :: l => if obE o = 0 then obsE l else obE o
/-- All texts. -/
def obsT (l : List Ob) : List UInt8 := (l.map obT).flatten
/-- What Objects tells. -/
def ansL (l : List Ob) : List UInt8 := if obsE l = 0 then obsT l else []
/-- An answer of Objects. -/
def TellsP (l : List Ob) (w : World) (e : Ending) (w' : World) : Prop :=
  e = .returned (.tuple #[.string (bs (ansL l)), .int .i64 (obsE l)]) ∧ Below w.heap.size w w'
theorem obsE_take {l : List Ob} {k : Nat} (h : k < l.length) (h0 : obsE (l.drop k) = obsE l) : (obE (ob l k) = 0 → obsE (l.drop (k + 1)) = obsE l) ∧ (¬ obE (ob l k) = 0 → obsE l = obE (ob l k)) := by
  rw [drop_ob l k h, obsE] at h0
  constructor
  · intro he
    rw [if_pos he] at h0
    exact h0
  · intro he
    rw [if_neg he] at h0
    exact h0.symm
theorem obsT_take (l : List Ob) (k : Nat) (h : k < l.length) : obsT (l.take (k + 1)) = obsT (l.take k) ++ obT (ob l k) := by
  unfold obsT
  rw [take_ob l k h, List.map_append, List.flatten_append]
  simp
theorem obsT_len {w : World} {A : Option Addr} {q : Nat → Pl} {l : List Ob} (h : ObsIn w A q l) : ∀ k, k ≤ l.length → (obsT (l.take k)).length ≤ k * 4194304
  | 0, _ => by simp [obsT]
  | k + 1, hk => by
    have a := obsT_len h k (by omega)
    have b := obT_len (h.each k (by omega))
    rw [obsT_take l k (by omega), List.length_append]
    omega

end Go.Proofs.YtbckolkgncajfaaGreatDoor

namespace Go.Proofs.YtbckolkgncajfaaGreatDoor
open Go.RowKit

/-- No list or text of an object is longer than any can be. -/
structure LightO (o : Ob) : Prop where
  n : o.nm.size ≤ 140737488355328
  c : o.code.length ≤ 140737488355328
  d : o.data.length ≤ 140737488355328
  s : o.ss.length ≤ 140737488355328
  r : o.rs.length ≤ 140737488355328
  e : ∀ i, (sName o.ss i).size ≤ 140737488355328
/-- An object's weight but for its names' ones. -/
def wtO (o : Ob) : Nat := o.nm.size + 4 * o.code.length + 8 * o.data.length + o.rs.length + o.ss.length
/-- How SizeObjects ends. -/
def SzP (l : List Ob) (w : World) (e : Ending) (w' : World) : Prop := ∃ n : Nat, e = .returned (.int .i64 n) ∧ n ≤ 2111064472813567 ∧ (n ≤ 2147483647 → ∀ i, i < l.length → wtO (ob l i) ≤ n) ∧ Below w.heap.size w w'
theorem lt_step {l : List Ob} {k n m : Nat} (h : ∀ i, i < k → wtO (ob l i) ≤ n) (hm : n ≤ m) (hk : wtO (ob l k) ≤ m) : ∀ i, i < k + 1 → wtO (ob l i) ≤ m := fun i hi => by
  by_cases e : i = k
  · subst e; exact hk
  · exact Nat.le_trans (h i (by omega)) hm
set_option maxHeartbeats 4000000 in
set_option maxRecDepth 100000 in
theorem sizeobs_any (A : Option Addr) (ca : Nat) (q : Nat → Pl) (l : List Ob) (w : World) (hA : ObsAt w A q l) (hS : ∀ i, i < l.length → SymsAt w (q i).A3 (ob l i).ss) (hL : ∀ i, i < l.length → LightO (ob l i)) (hl : l.length ≤ 40) :
    Calls Tryz.prog 47 #[.slice A l.length ca] w (SzP l w) := by
  have HA : Hid (ObsAt w A q l) := hA
  have HS : Hid (∀ i, i < l.length → SymsAt w (q i).A3 (ob l i).ss) := hS
  have HL : Hid (∀ i, i < l.length → LightO (ob l i)) := hL
  clear hA hS hL
  go_enter Tryz.func47, Tryz.ntmps47
  go_wp2
  go_loopw [4, 3] (fun i t wr => ∃ (k n : Nat), i = .int .i64 k ∧ t = .int .i64 n ∧ k ≤ l.length ∧ n ≤ 2111064472813567 ∧ Hid (∀ i, i < k → wtO (ob l i) ≤ n) ∧ Hid (Below w.heap.size w wr)) (fun i _ _ => l.length - (intOf i).toNat)
  case atStart => exact ⟨0, l.length, rfl, rfl, Nat.zero_le _, by omega, fun i hi => absurd hi (Nat.not_lt_zero _), Below.refl _ _⟩
  case round =>
    obtain ⟨k, n, rfl, rfl, hk, hn, HW, HB⟩ := hrel
    by_cases hlt : k < l.length
    · by_cases hbig : n ≤ 2147483647
      · have hlt' : (k : Int) < (l.length : Int) := by omega
        have hbig' : (n : Int) ≤ 2147483647 := by omega
        obtain ⟨a, ea, x0, x1, x2, x3, x4, x5⟩ := HA.out.six HB.out k hlt
        have hLk := HL.out k hlt
        have h1 := hLk.n
        have h2 := hLk.c
        have h3 := hLk.d
        have h4 := hLk.s
        have h5 := hLk.r
        have HLe : Hid _ := hLk.e
        have HSk : Hid _ := HS.out k hlt
        clear hLk
        subst ea
        go_wp2
        go_quiet (fail)
        have HB0 : Hid (Below w.heap.size w (wr.drewN nq)) := below_drewN HB.out _
        obtain ⟨m0, hm0⟩ : ∃ m : Nat, m = n + (ob l k).nm.size + 4 * (ob l k).code.length + 8 * (ob l k).data.length + (ob l k).rs.length + (ob l k).ss.length := ⟨_, rfl⟩
        have hm1 : (n : Int) + ((ob l k).nm.size : Int) + 4 * ((ob l k).code.length : Int) + 8 * ((ob l k).data.length : Int) + ((ob l k).rs.length : Int) + ((ob l k).ss.length : Int) = (m0 : Int) := by omega
        have hm2 : m0 ≤ 2111064472813567 := by omega
        have HM3 : Hid (n ≤ m0) := by unfold Hid; omega
        have HM4 : Hid (wtO (ob l k) ≤ m0) := by unfold Hid wtO; omega
        rw [hm1]
        clear hm0 hm1 x0 x1 x2 x3 x4 x5 h1 h2 h3 h5
        generalize wr.drewN nq = wz at HB0 ⊢
        go_wp2
        go_loopw [5, 3] (fun i t wr => ∃ (j m : Nat), i = .int .i64 j ∧ t = .int .i64 m ∧ j ≤ (ob l k).ss.length ∧ m0 ≤ m ∧ m ≤ 2111064472813567 ∧ Hid (Below w.heap.size w wr)) (fun i _ _ => (ob l k).ss.length - (intOf i).toNat)
        case atStart => exact ⟨0, m0, rfl, rfl, Nat.zero_le _, Nat.le_refl _, hm2, HB0⟩
        case round =>
          clear HB0
          obtain ⟨j, m, rfl, rfl, hj, hm3, hm4, HB1⟩ := hrel
          obtain ⟨b, eb, x0, x1, x2, x3, x4, x5⟩ := HA.out.six HB1.out k hlt
          obtain rfl := Option.some.inj eb
          clear eb x0 x1 x2 x3 x5
          by_cases hjl : j < (ob l k).ss.length
          · have hjl' : (j : Int) < ((ob l k).ss.length : Int) := by omega
            by_cases hmb : m ≤ 2147483647
            · have hmb' : (m : Int) ≤ 2147483647 := by omega
              obtain ⟨a3, e3, s0, s1, s2⟩ := HSk.out j hjl
              have t0 := lkeep HB1.out s0
              have hsz := HLe.out j
              rw [e3] at x4
              clear s0 s1 s2 e3
              go_wp2
              go_roundw
              case rel => exact ⟨j + 1, m + (sName (ob l k).ss j).size, by go_num, by go_num, by omega, by omega, by omega, HB1⟩
              case measure => simp [intOf]; omega
            · have hmb' : ¬ (m : Int) ≤ 2147483647 := by omega
              go_wp2
              go_roundw
              case rel => exact ⟨k + 1, m, by go_num, rfl, by omega, hm4, lt_step HW.out (Nat.le_trans HM3.out hm3) (Nat.le_trans HM4.out hm3), HB1⟩
              case measure => simp [intOf]; omega
          · have hjl' : ¬ (j : Int) < ((ob l k).ss.length : Int) := by omega
            go_wp2
            go_roundw
            case rel => exact ⟨k + 1, m, by go_num, rfl, by omega, hm4, lt_step HW.out (Nat.le_trans HM3.out hm3) (Nat.le_trans HM4.out hm3), HB1⟩
            case measure => simp [intOf]; omega
      · have hlt' : (k : Int) < (l.length : Int) := by omega
        have hbig' : ¬ (n : Int) ≤ 2147483647 := by omega
        go_wp2
        go_ret
        exact ⟨n, rfl, hn, fun h => absurd h hbig, HB.out⟩
    · have hlt' : ¬ (k : Int) < (l.length : Int) := by omega
      go_wp2
      go_ret
      exact ⟨n, rfl, hn, fun _ i hi => HW.out i (by omega), HB.out⟩
/-- How heavy ends. -/
def HvL (l : List Ob) (w : World) (e : Ending) (w' : World) : Prop := ∃ B : Bool, e = .returned (.bool B) ∧ (B = false → l.length ≤ 40 ∧ ∀ i, i < l.length → wtO (ob l i) ≤ 262144) ∧ Below w.heap.size w w'
theorem long_any (n : Int) (w : World) : Calls Tryz.prog 46 #[.int .i64 n] w fun e w' => e = .returned (.bool (decide (2147483647 < n))) ∧ w' = w := by
  go_enter Tryz.func46, Tryz.ntmps46
  go_wp2
  go_ret
  exact ⟨rfl, rfl⟩
set_option maxHeartbeats 4000000 in
set_option maxRecDepth 100000 in
theorem heavy_any (A : Option Addr) (ca : Nat) (q : Nat → Pl) (l : List Ob) (w : World) (hA : ObsAt w A q l) (hS : ∀ i, i < l.length → SymsAt w (q i).A3 (ob l i).ss) (hL : ∀ i, i < l.length → LightO (ob l i)) :
    Calls Tryz.prog 15 #[.slice A l.length ca] w (HvL l w) := by
  by_cases hl : 40 < l.length
  · have hl' : (40 : Int) < (l.length : Int) := by omega
    clear hA hS hL
    go_enter Tryz.func15, Tryz.ntmps15
    go_wp2
    go_ret
    exact ⟨true, rfl, fun h => (by cases h), Below.refl _ _⟩
  · have hl' : ¬ (40 : Int) < (l.length : Int) := by omega
    have hl4 : l.length ≤ 40 := by omega
    have CZ : Hid (∀ wx, Below w.heap.size w wx → Calls Tryz.prog 47 #[.slice A l.length ca] wx (SzP l wx)) := fun wx hx => sizeobs_any A ca q l wx (hA.keep hx) (fun i hi => (hS i hi).keep hx) hL hl4
    clear hA hS hL hl
    go_enter Tryz.func15, Tryz.ntmps15
    go_wp2_with fail
    refine (CZ.out _ (Below.refl _ _)).mono ?_
    rintro e w1 ⟨n, rfl, hn, -, hb1⟩
    have HB1 : Hid (Below w.heap.size w w1) := hb1
    clear hb1
    go_wp2_with fail
    refine (long_any _ _).mono ?_
    rintro e w2 ⟨rfl, rfl⟩
    by_cases hlo : 2147483647 < n
    · have hlo' : (2147483647 : Int) < (n : Int) := by omega
      go_wp2
      go_ret
      exact ⟨true, rfl, fun h => (by cases h), HB1.out⟩
    · have hlo' : ¬ (2147483647 : Int) < (n : Int) := by omega
      go_wp2_with fail
      refine (CZ.out _ HB1.out).mono ?_
      rintro e w3 ⟨m, rfl, hm, hwt, hb3⟩
      have HB3 : Hid (Below w.heap.size w w3) := lb_trans HB1.out hb3
      have HWt : Hid (m ≤ 2147483647 → ∀ i, i < l.length → wtO (ob l i) ≤ m) := hwt
      clear hwt hb3
      go_wp2
      go_ret
      refine ⟨_, rfl, fun h => ⟨hl4, fun i hi => ?_⟩, HB3.out⟩
      have h1 : (n : Int) ≤ 2147483647 ∧ (m : Int) ≤ 262144 := by simpa using h
      have h2 := h1.2
      exact Nat.le_trans (HWt.out (by omega) i hi) (by omega)

end Go.Proofs.YtbckolkgncajfaaGreatDoor
