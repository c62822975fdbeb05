/-
  The program's Bases. The program's memory. Aim of the program. Words that are patched.
-/
import Derived.Test.YthpkekpojhmaaaaGreatDoorProg
import Derived.WalkKit
import Derived.WalkSpells
import Derived.WalkLawsBesides
import Derived.RowKit3
import Derived.Below
import Derived.Deep.QuietTactic
import Derived.BigQuiet
import Derived.WalkSmall
import Derived.Laws.Rows
import Derived.Test.YthpkekpojhmaaaaGreatDoorP27
import Derived.Test.YthpkekpojhmaaaaGreatDoorP26
import Derived.Test.YthpkekpojhmaaaaGreatDoorP08
import Derived.Deep.DeepCutAuto
import Derived.Deep.RegionHeld3
import Derived.Test.YthpkekpojhmaaaaGreatDoorP12
import Derived.Test.YthpkekpojhmaaaaGreatDoorP10
import Derived.Test.YthpkekpojhmaaaaGreatDoorP23
namespace Go.Proofs.YthpkekpojhmaaaaGreatDoor
open Go.RowKit

theorem bas_some {l : List Ob} {i : Nat} (hl : ¬ 32 < l.length) (h : farL l = some i) : basE l = 42 := by unfold basE; rw [if_neg hl, h]; rfl
theorem bas_none {l : List Ob} (hl : ¬ 32 < l.length) (h : farL l = none) : basE l = 0 ∧ basL l = basT l l.length := by
  have e : basE l = 0 := by unfold basE; rw [if_neg hl, h]; rfl
  exact ⟨e, by unfold basL; rw [if_pos e]; rfl⟩
set_option maxHeartbeats 2000000 in
theorem progB : ProgB := fun A ca q l w hA => by
  have C := basesOf_any A ca q l w hA
  have hf := hA.few
  clear hA
  go_enter Tryz.func10, Tryz.ntmps10
  by_cases hl : 32 < l.length
  · have hl' : (32 : Int) < (l.length : Int) := by omega
    go_wp2
    refine bodyPost_ret (v := .tuple #[.slice none 0 0, .int .i64 21]) (by simp [results, Tryz.results10, go_sem]) rfl ?_
    exact bas_err (by unfold basE; rw [if_pos hl]) (by decide) (Below.refl _ _)
  · have hl' : ¬ (32 : Int) < (l.length : Int) := by omega
    go_wp2_with fail
    refine C.mono ?_
    rintro e w1 (⟨i, hi, rfl, hb⟩ | ⟨hi, O, c, rfl, hr, hb⟩)
    · have HX : Hid (basE l = 42) := bas_some hl hi
      clear C hi
      go_wp2
      refine bodyPost_ret (v := .tuple #[.slice none 0 0, .int .i64 42]) (by simp [results, Tryz.results10, go_sem]) rfl ?_
      exact bas_err HX.out (by decide) hb
    · have HX : Hid (basE l = 0 ∧ basL l = basT l l.length) := bas_none hl hi
      have HR : Hid (w1.ownsRow w.heap.size 3 1 (.slice O l.length c) l.length (vI (basT l l.length))) := hr
      clear C hi hr
      go_wp2
      refine bodyPost_ret (v := .tuple #[.slice O l.length c, .int .i64 0]) (by simp [results, Tryz.results10, go_sem]) rfl ?_
      refine ⟨O, c, ?_, ?_, hb⟩
      · rw [HX.out.1, HX.out.2, basT_len]
      · rw [HX.out.2, basT_len]; exact HR.out

end Go.Proofs.YthpkekpojhmaaaaGreatDoor

namespace Go.Proofs.YthpkekpojhmaaaaGreatDoor
open Go.RowKit

/-- A row of cells by a function. -/
def fnA (f : Nat → Value) (n : Nat) : Array Value := ((List.range n).map f).toArray
theorem fnA_size (f : Nat → Value) (n : Nat) : (fnA f n).size = n := by simp [fnA]
theorem fnA_get {f : Nat → Value} {n i : Nat} (h : i < n) : (fnA f n)[i]? = some (f i) := by simp [fnA, h]
theorem fnA_set {f : Nat → Value} {n a : Nat} (v : Value) : (fnA f n).setIfInBounds a v = fnA (fun x => if x = a then v else f x) n := by
  apply Array.ext_getElem?
  intro i
  by_cases hi : i < n
  · rw [fnA_get hi, Array.getElem?_setIfInBounds, fnA_size]
    by_cases ha : a = i
    · subst ha; simp [hi]
    · rw [if_neg ha, fnA_get hi, if_neg (fun e => ha e.symm)]
  · rw [Array.getElem?_eq_none (by rw [Array.size_setIfInBounds, fnA_size]; omega), Array.getElem?_eq_none (by rw [fnA_size]; omega)]
theorem fnA_congr {f g : Nat → Value} {n : Nat} (h : ∀ x, x < n → f x = g x) : fnA f n = fnA g n := by
  unfold fnA
  congr 1
  exact List.map_congr_left fun x hx => h x (by simpa using hx)
theorem made_fn (n : Nat) (z : Value) : madeCells #[z] n = fnA (fun _ => z) n := by
  apply Array.ext_getElem?
  intro i
  by_cases hi : i < n
  · rw [fnA_get hi]
    simp [madeCells, hi, Nat.mod_one]
  · rw [Array.getElem?_eq_none (by simp [madeCells]; omega), Array.getElem?_eq_none (by rw [fnA_size]; omega)]
theorem row_set {w : World} {g k : Nat} {cur : Array Value} {t : TypeId} (h : w.heap[g]? = some (.cells cur t (0, 0))) (u : Value) : (w.setCell ⟨g, k, none⟩ u).heap[g]? = some (.cells (cur.setIfInBounds k u) t (0, 0)) := by
  simp [World.setCell, Array.getElem?_modify, h]
theorem row_off {w : World} {g k : Nat} {o : Obj} {b : Nat} (h : w.heap[g]? = some o) (hb : g ≠ b) (u : Value) : (w.setCell ⟨b, k, none⟩ u).heap[g]? = some o := by
  rw [Below.heap_setCell _ _ _ _ hb]; exact h
theorem cellA {w : World} {g p : Nat} {cur : Array Value} {t : TypeId} {u : Value} (h : w.heap[g]? = some (.cells cur t (0, 0))) (hp : cur[p]? = some u) : w.cell? ⟨g, p, none⟩ = some u := by
  simp [World.cell?, h, hp]
theorem frozA {w : World} {g p : Nat} {cur : Array Value} {t : TypeId} (h : w.heap[g]? = some (.cells cur t (0, 0))) : w.frozen? ⟨g, p, none⟩ = false := by
  simp [World.frozen?, h]
/-- Where data may lie. -/
def DatIn (l : List Ob) : Prop := ∀ i, i < l.length → 0 ≤ (ob l i).dA ∧ (ob l i).dA ≤ 4096 ∧ (ob l i).data.length ≤ 4096

theorem zeroT_ok : zeroIs (Tryz.prog.info? 167) 4096 = true := by kernel_rfl
theorem zeroT (w : World) : (zeroValue 167).run Tryz.prog w = .ok (.agg (fnA (fun _ => .bool false) 4096)) w := by
  have h := zeroT_ok
  unfold zeroIs at h
  cases hi : Tryz.prog.info? 167 with
  | none => rw [hi] at h; cases h
  | some i =>
    rw [hi] at h
    simp only [] at h
    cases hz : i.zero with
    | none => rw [hz] at h; cases h
    | some v =>
      rw [hz] at h
      cases v with
      | agg cs =>
        simp only [] at h
        obtain ⟨h1, h2⟩ := chkF_ok _ _ h
        have e : cs = fnA (fun _ => .bool false) 4096 := by
          apply Array.ext_getElem?
          intro j
          by_cases hj : j < 4096
          · rw [fnA_get hj]; simpa using h2 j hj
          · rw [Array.getElem?_eq_none (by simpa using (by omega : cs.toList.length ≤ j)), Array.getElem?_eq_none (by rw [fnA_size]; omega)]
        rw [← e]
        simp [zeroValue, typeInfo, hi, hz]
      | _ => cases h
theorem infoL2 : ∃ i, Tryz.prog.info? 2 = some i ∧ i.zero = some (.int .i64 0) ∧ i.size = 1 ∧ i.bytes = 8 :=
  ⟨(Tryz.prog.info? 2).get (by kernel_rfl), by kernel_rfl, by kernel_rfl, by kernel_rfl, by kernel_rfl⟩
theorem makeL (n : Nat) (hn : n ≤ 4096) (w : World) : (Instr.makeSlice 27 (.int .i64 n) (.int .i64 n)).run Tryz.prog w = .ok (.slice (some ⟨w.heap.size, 0, none⟩) n n) (w.alloc (.cells (fnA (fun _ => .int .i64 0) n) 2)) := by
  obtain ⟨i, hi, hz, hs, hb⟩ := infoL2
  have h := run_makeSlice (P := Tryz.prog) w 27 2 i _ Tryz.underlying27 hi hz .i64 .i64 n n (by omega) (by omega) (by rw [hs]; omega) (by rw [hb]; omega) (by omega)
  rw [hs, show ((n : Int)).toNat = n by omega, Nat.mul_one] at h
  rw [h, ← made_fn n]
  rfl
/-- The memory, and which of it is taken. -/
structure MemA (w : World) (g n : Nat) (m : Nat → Option Int) : Prop where
  tk : w.heap[g]? = some (.cells (fnA (fun a => .bool (m a).isSome) 4096) 167 (0, 0))
  out : w.heap[g + 1]? = some (.cells (fnA (fun a => .int .i64 (valM m a)) n) 2 (0, 0))
theorem MemA.set {w : World} {g n : Nat} {m : Nat → Option Int} (h : MemA w g n m) (a : Nat) (v : Int) : MemA ((w.setCell ⟨g, a, none⟩ (.bool true)).setCell ⟨g + 1, a, none⟩ (.int .i64 v)) g n (putM m a v) := by
  refine ⟨?_, ?_⟩
  · rw [row_off (row_set h.tk _) (by omega), fnA_set, fnA_congr (g := fun x => .bool (putM m a v x).isSome)]
    intro x _
    unfold putM
    split <;> rfl
  · rw [row_set (row_off h.out (by omega) _), fnA_set, fnA_congr (g := fun x => .int .i64 (valM (putM m a v) x))]
    intro x _
    unfold valM putM
    split <;> rfl
theorem MemA.keep {w w1 : World} {g n : Nat} {m : Nat → Option Int} (h : MemA w g n m) (hb : Below w.heap.size w w1) : MemA w1 g n m :=
  ⟨(hb.block _ (Array.getElem?_eq_some_iff.1 h.tk).1).trans h.tk, (hb.block _ (Array.getElem?_eq_some_iff.1 h.out).1).trans h.out⟩
theorem MemA.own {w : World} {g n b : Nat} {m : Nat → Option Int} (h : MemA w g n m) (hn : n ≤ 4096) (hb : b ≤ g) : w.ownsRow b 2 1 (.slice (some ⟨g + 1, 0, none⟩) n n) n (vI ((List.range n).map (valM m))) := by
  refine ⟨by simp [vI], .inr ⟨g + 1, n, _, rfl, by omega, h.out, Nat.le_refl _, by unfold maxLen; omega, by rw [fnA_size, Nat.mul_one], ?_⟩⟩
  simp [fnA, vI, List.take_of_length_le]
/-- What fill answers. -/
def FilP (l : List Ob) (mem : Nat) (w : World) (e : Ending) (w' : World) : Prop :=
  (∃ x, datE l mem = some x ∧ e = .returned (.tuple #[.slice none 0 0, .int .i64 x.1, .int .i64 x.2.1, .int .i64 x.2.2]) ∧ Below w.heap.size w w') ∨
  (datE l mem = none ∧ ∃ O, e = .returned (.tuple #[.slice O mem mem, .int .i64 0, .int .i64 0, .int .i64 0]) ∧ w'.ownsRow w.heap.size 2 1 (.slice O mem mem) mem (vI (datL l mem)) ∧ Below w.heap.size w w')
/-- An object's copy. -/
def CopyAt (w : World) (B : Nat) (p : Pl) (o : Ob) : Prop := w.heap[B]? = some (.cells #[.string o.nm, .slice p.A1 o.code.length p.c1, .int .i64 o.dA, .slice p.A2 o.data.length p.c2, .slice p.A3 o.ss.length p.c3, .slice p.A4 o.rs.length p.c4] 75 (0, 0))
theorem CopyAt.cells {w : World} {B : Nat} {p : Pl} {o : Ob} (h : CopyAt w B p o) : w.cell? ⟨B, 1, none⟩ = some (.slice p.A1 o.code.length p.c1) ∧ w.cell? ⟨B, 2, none⟩ = some (.int .i64 o.dA) ∧ w.cell? ⟨B, 3, none⟩ = some (.slice p.A2 o.data.length p.c2) ∧ w.cell? ⟨B, 5, none⟩ = some (.slice p.A4 o.rs.length p.c4) := by
  refine ⟨?_, ?_, ?_, ?_⟩ <;> simp [World.cell?, show w.heap[B]? = _ from h]
set_option maxHeartbeats 8000000 in
set_option maxRecDepth 100000 in
theorem fill_any (A : Option Addr) (ca : Nat) (q : Nat → Pl) (l : List Ob) (mem : Nat) (w : World) (hA : ObsIn w A q l) (hm : mem ≤ 4096) (hD : DatIn l) :
    Calls Tryz.prog 38 #[.slice A l.length ca, .int .i64 mem] w (FilP l mem w) := by
  have hf := hA.few
  have hmL := makeL mem hm
  have hmT := zeroT
  have HA : Hid (ObsIn w A q l) := hA
  have HD : Hid (DatIn l) := hD
  obtain ⟨w0, hw0⟩ : ∃ w0, w0 = (w.alloc (.cells (fnA (fun _ => .bool false) 4096) 167)).alloc (.cells (fnA (fun _ => .int .i64 0) mem) 2) := ⟨_, rfl⟩
  have HB0 : Hid (Below w.heap.size w w0) := by rw [Hid, hw0]; exact lb_alloc (lb_alloc (Below.refl _ _) _) _
  have HM0 : Hid (MemA w0 w.heap.size mem (memM l 0)) := by
    rw [Hid, hw0]
    refine ⟨?_, ?_⟩
    · have h1 := heap_alloc_new w (.cells (fnA (fun _ => .bool false) 4096) 167)
      have h2 := (lb_alloc (Below.refl (w.alloc (.cells (fnA (fun _ => .bool false) 4096) 167)).heap.size (w.alloc (.cells (fnA (fun _ => .bool false) 4096) 167))) (.cells (fnA (fun _ => .int .i64 0) mem) 2)).block w.heap.size (by simp)
      rw [h2]
      exact h1
    · have h1 := heap_alloc_new (w.alloc (.cells (fnA (fun _ => .bool false) 4096) 167)) (.cells (fnA (fun _ => .int .i64 0) mem) 2)
      have e : (fun a => Value.int .i64 (valM (memM l 0) a)) = fun _ => .int .i64 0 := rfl
      rw [e]
      simpa using h1
  clear hA hD
  go_enter Tryz.func38, Tryz.ntmps38
  go_wp2
  rw [← hw0]
  clear hmL hmT hw0
  go_loopw [19] (fun i wr => ∃ k : Nat, i = .int .i64 k ∧ k ≤ l.length ∧ Hid (MemA wr w.heap.size mem (memM l k)) ∧ Hid (∀ j, j < k → badM l mem j = none) ∧ Hid (Below w.heap.size w wr)) (fun i _ => l.length - (intOf i).toNat)
  case atStart => exact ⟨0, rfl, Nat.zero_le _, HM0, fun j hj => absurd hj (Nat.not_lt_zero _), HB0⟩
  case round =>
    clear HM0 HB0
    obtain ⟨k, rfl, hk, HM, HN, HB⟩ := hrel
    by_cases hkl : k < l.length
    · have hkl' : (k : Int) < (l.length : Int) := by omega
      obtain ⟨a, ea, x0, x1, x2, x3, x4, x5⟩ := HA.out.cells.six HB.out k hkl
      subst ea
      obtain ⟨hd0, hd1, hd2⟩ := HD.out k hkl
      obtain ⟨W, hW⟩ : ∃ W, W = wr.alloc (.cells #[.string (ob l k).nm, .slice (q k).A1 (ob l k).code.length (q k).c1, .int .i64 (ob l k).dA, .slice (q k).A2 (ob l k).data.length (q k).c2, .slice (q k).A3 (ob l k).ss.length (q k).c3, .slice (q k).A4 (ob l k).rs.length (q k).c4] 75) := ⟨_, rfl⟩
      have HC : Hid (CopyAt W wr.heap.size (q k) (ob l k)) := by rw [Hid, hW]; exact heap_alloc_new _ _
      have hbW : Below wr.heap.size wr W := by rw [hW]; exact lb_alloc (Below.refl _ _) _
      have HBW : Hid (Below w.heap.size w W) := lb_trans HB.out hbW
      have HMW : Hid (MemA W w.heap.size mem (memM l k)) := HM.out.keep hbW
      have hgw : w.heap.size + 1 < wr.heap.size := (Array.getElem?_eq_some_iff.1 HM.out.out).1
      obtain ⟨d, hd⟩ : ∃ d : Nat, (ob l k).dA = (d : Int) := ⟨(ob l k).dA.toNat, by omega⟩
      have HDd : Hid ((ob l k).dA = (d : Int)) := hd
      have HDt : Hid ((ob l k).dA.toNat = d) := by rw [Hid, hd]; omega
      have hd1' : d ≤ 4096 := by omega
      clear hd hd0 hd1
      go_upto_region 6 with fail
      rw [← hW]
      clear hW x0 x1 x2 x3 x4 x5 hbW HB HM
      obtain ⟨-, y2, y3, -⟩ := HC.out.cells
      rw [HDd.out] at y2
      by_cases hz : 0 < (ob l k).data.length ∧ mem < d + (ob l k).data.length
      · have hz0' : (0 : Int) < ((ob l k).data.length : Int) := by omega
        have hov' : (mem : Int) < (d : Int) + ((ob l k).data.length : Int) := by omega
        have HX : Hid (datE l mem = some (25, (k : Int), 0)) := by
          refine fst_hit HN.out ?_ hkl
          unfold badM
          rw [if_pos (by rw [HDd.out]; exact ⟨hz.1, hov'⟩)]
        go_wp2
        refine bodyPost_ret (v := .tuple #[.slice none 0 0, .int .i64 25, .int .i64 k, .int .i64 0]) (by simp [results, Tryz.results38, go_sem]) rfl (Or.inl ⟨_, HX.out, rfl, HBW.out⟩)
      · have HBM : Hid (badM l mem k = fstN (overS l k) (ob l k).data.length) := by
          unfold Hid badM
          rw [if_neg (by rw [HDd.out]; omega)]
        by_cases hz0 : 0 < (ob l k).data.length
        · have hz0' : (0 : Int) < ((ob l k).data.length : Int) := by omega
          have hov' : ¬ (mem : Int) < (d : Int) + ((ob l k).data.length : Int) := by omega
          go_wp2
          clear y2 y3
          generalize wr.heap.size = Bo at HC hgw ⊢
          go_loopw [42] (fun i wz => ∃ j : Nat, i = .int .i64 j ∧ j ≤ (ob l k).data.length ∧ Hid (MemA wz w.heap.size mem (rowM (memM l k) (ob l k) j)) ∧ Hid (∀ h, h < j → overS l k h = none) ∧ Hid (Below w.heap.size w wz) ∧ Hid (CopyAt wz Bo (q k) (ob l k))) (fun i _ => (ob l k).data.length - (intOf i).toNat)
          case atStart => exact ⟨0, rfl, Nat.zero_le _, HMW, fun j hj => absurd hj (Nat.not_lt_zero _), HBW, HC⟩
          case round =>
            clear HMW HBW HC
            obtain ⟨j, rfl, hj, HM, HS, HB, HC⟩ := hrel
            obtain ⟨-, y2, -, -⟩ := HC.out.cells
            rw [HDd.out] at y2
            by_cases hjl : j < (ob l k).data.length
            · have hjl' : (j : Int) < ((ob l k).data.length : Int) := by omega
              obtain ⟨p, hp⟩ : ∃ p : Nat, (d : Int) + (j : Int) = (p : Int) := ⟨d + j, by omega⟩
              have HP : Hid (d + j = p) := by rw [Hid]; omega
              have hpm : p < mem := by omega
              have hpm' : (p : Int) < (mem : Int) := by omega
              have hp4 : p < 4096 := by omega
              have hp4' : (p : Int) < (4096 : Int) := by omega
              obtain ⟨a3, e3, y4⟩ := (HA.out.each k hkl).dt.keep HB.out j hjl
              have c0 : wr.cell? ⟨w.heap.size, p, none⟩ = some (.bool (rowM (memM l k) (ob l k) j p).isSome) := cellA HM.out.tk (fnA_get hp4)
              have c1 : wr.frozen? ⟨w.heap.size, p, none⟩ = false := frozA HM.out.tk
              rw [e3]
              clear e3
              cases ht : (rowM (memM l k) (ob l k) j p).isSome
              · rw [ht] at c0
                have HS2 : Hid (∀ h, h < j + 1 → overS l k h = none) := fst_step HS.out (by
                  unfold overS
                  rw [HDt.out, HP.out, if_neg (by rw [ht]; simp)])
                have c2 : wr.cell? ⟨w.heap.size + 1, p, none⟩ = some (.int .i64 (valM (rowM (memM l k) (ob l k) j) p)) := cellA HM.out.out (fnA_get hpm)
                have c3 : wr.frozen? ⟨w.heap.size + 1, p, none⟩ = false := frozA HM.out.out
                have HM2 : Hid (MemA ((wr.setCell ⟨w.heap.size, p, none⟩ (.bool true)).setCell ⟨w.heap.size + 1, p, none⟩ (.int .i64 (nth (ob l k).data j))) w.heap.size mem (rowM (memM l k) (ob l k) (j + 1))) := by
                  rw [Hid, rowM, HDt.out, HP.out]
                  exact HM.out.set p _
                have HB2 : Hid (Below w.heap.size w ((wr.setCell ⟨w.heap.size, p, none⟩ (.bool true)).setCell ⟨w.heap.size + 1, p, none⟩ (.int .i64 (nth (ob l k).data j)))) := (HB.out.setCell (Nat.le_refl _) _).setCell (Nat.le_succ _) _
                have HC2 : Hid (CopyAt ((wr.setCell ⟨w.heap.size, p, none⟩ (.bool true)).setCell ⟨w.heap.size + 1, p, none⟩ (.int .i64 (nth (ob l k).data j))) Bo (q k) (ob l k)) := row_off (row_off HC.out (by omega) _) (by omega) _
                go_wp2
                go_roundw
                case rel => exact ⟨j + 1, by go_num, by omega, HM2, HS2, HB2, HC2⟩
                case measure => simp [intOf]; omega
              · rw [ht] at c0
                have HX : Hid (datE l mem = some (43, (k : Int), (p : Int))) := by
                  refine fst_hit HN.out ?_ hkl
                  rw [HBM.out]
                  refine fst_hit HS.out ?_ hjl
                  unfold overS
                  rw [HDt.out, HP.out, if_pos ht]
                go_wp2
                refine bodyPost_ret (v := .tuple #[.slice none 0 0, .int .i64 43, .int .i64 k, .int .i64 p]) (by simp [results, Tryz.results38, go_sem]) rfl (Or.inl ⟨_, HX.out, rfl, HB.out⟩)
            · have hjl' : ¬ (j : Int) < ((ob l k).data.length : Int) := by omega
              obtain rfl : j = (ob l k).data.length := by omega
              have HN2 : Hid (∀ j, j < k + 1 → badM l mem j = none) := fst_step HN.out (by rw [HBM.out]; exact fst_none HS.out)
              go_wp2
              go_roundw
              case rel => exact ⟨k + 1, by go_num, by omega, HM, HN2, HB⟩
              case measure => simp [intOf]; omega
        · have hz0' : ¬ (0 : Int) < ((ob l k).data.length : Int) := by omega
          have HL : Hid ((ob l k).data.length = 0) := by rw [Hid]; omega
          have HN2 : Hid (∀ j, j < k + 1 → badM l mem j = none) := fst_step HN.out (by rw [HBM.out, HL.out]; rfl)
          have HM2 : Hid (MemA W w.heap.size mem (memM l (k + 1))) := by rw [Hid, memM, HL.out]; exact HMW.out
          go_wp2
          go_loopw [42] (fun i wz => i = .int .i64 0 ∧ wz = W) (fun _ _ => 0)
          case atStart => exact ⟨rfl, rfl⟩
          case round =>
            obtain ⟨rfl, rfl⟩ := hrel
            go_wp2
            go_roundw
            case rel => exact ⟨k + 1, by go_num, by omega, HM2, HN2, HBW⟩
            case measure => simp [intOf]; omega
    · have hkl' : ¬ (k : Int) < (l.length : Int) := by omega
      obtain rfl : k = l.length := by omega
      have HX : Hid (datE l mem = none) := fst_none HN.out
      have HR : Hid (wr.ownsRow w.heap.size 2 1 (.slice (some ⟨w.heap.size + 1, 0, none⟩) mem mem) mem (vI (datL l mem))) := HM.out.own hm (Nat.le_refl _)
      go_wp2
      refine bodyPost_ret (v := .tuple #[.slice (some ⟨w.heap.size + 1, 0, none⟩) mem mem, .int .i64 0, .int .i64 0, .int .i64 0]) (by simp [results, Tryz.results38, go_sem]) rfl (Or.inr ⟨HX.out, _, rfl, HR.out, HB.out⟩)

end Go.Proofs.YthpkekpojhmaaaaGreatDoor

namespace Go.Proofs.YthpkekpojhmaaaaGreatDoor
open Go.RowKit

theorem aim_of (v q x d a b n tv V E : Int) (p : Bool) (w : World) (CE : ∀ wx : World, Calls Tryz.prog 77 #[.int .u32 v] wx fun e w' => e = .returned (.agg #[.int .i8 x, .int .i8 d, .int .i8 a, .int .i8 b, .int .i64 n]) ∧ Below wx.heap.size wx w') (CT : ∀ wx : World, Calls Tryz.prog 25 #[.int .u32 v] wx fun e w' => e = .returned (.tuple #[.int .i64 tv, .bool p]) ∧ Below wx.heap.size wx w') (CN : ∀ wx : World, Calls Tryz.prog 81 #[.agg #[.int .i8 x, .int .i8 d, .int .i8 a, .int .i8 b, .int .i64 q]] wx fun e w' => e = .returned (.tuple #[.int .u32 V, .int .i64 E]) ∧ Below wx.heap.size wx w') : Calls Tryz.prog 27 #[.int .u32 v, .int .i64 q] w fun e w' => e = .returned (.tuple #[.int .u32 (if p then V else 0), .int .i64 (if p then E else 10)]) ∧ Below w.heap.size w w' := by
  cases p
  · go_enter Tryz.func27, Tryz.ntmps27
    go_wp2_with fail
    refine (CT _).mono ?_
    rintro e w1 ⟨rfl, hb⟩
    go_wp2
    go_ret2
    exact ⟨rfl, hb⟩
  · go_enter Tryz.func27, Tryz.ntmps27
    go_wp2_with fail
    refine (CT _).mono ?_
    rintro e w1 ⟨rfl, hb⟩
    go_wp2_with fail
    refine (CE _).mono ?_
    rintro e w2 ⟨rfl, hb2⟩
    go_wp2_with fail
    refine (CN _).mono ?_
    rintro e w3 ⟨rfl, hb3⟩
    have HB : Hid (Below w.heap.size w w3) := bel_trans (bel_alloc (bel_trans hb hb2) _) hb3
    clear hb hb2 hb3
    go_wp2
    go_ret2
    exact ⟨rfl, HB.out⟩

theorem isaaim_any (v p : Int) (h0 : 0 ≤ v) (h1 : v < 4294967296) (w : World) : Calls Tryz.prog 27 #[.int .u32 v, .int .i64 p] w fun e w' => e = .returned (.tuple #[.int .u32 (aimV v p), .int .i64 (aimE v p)]) ∧ Below w.heap.size w w' := by
  have h := aim_of v p _ _ _ _ _ _ _ _ _ w (isadecode_any v h0 h1) (isatarget_any v h0 h1) (isaencode_any (dOp v) (dD v) (dA v) (dB v) p (by have := dOp_le h1; omega))
  have e : aimV v p = (if isT v then encV (dOp v) (dD v) (dA v) (dB v) p else 0) ∧ aimE v p = (if isT v then encE (dOp v) (dD v) (dA v) (dB v) p else 10) := by
    unfold aimV aimE
    cases hT : isT v
    · exact ⟨rfl, rfl⟩
    · by_cases hp : 0 ≤ p ∧ p < 16384
      · rw [decide_eq_true hp]; exact ⟨rfl, rfl⟩
      · rw [decide_eq_false hp, (aim_no hT hp).1, (aim_no hT hp).2]; exact ⟨rfl, rfl⟩
  rw [e.1, e.2]
  exact h


end Go.Proofs.YthpkekpojhmaaaaGreatDoor

namespace Go.Proofs.YthpkekpojhmaaaaGreatDoor
open Go.RowKit

theorem zcell_lt {w : World} {a : Addr} {v : Value} (h : w.cell? a = some v) : a.block < w.heap.size := by
  rcases Nat.lt_or_ge a.block w.heap.size with h1 | h1
  · exact h1
  · have e : w.heap[a.block]? = none := Array.getElem?_eq_none h1
    simp [World.cell?, e] at h
theorem aimed_any (v p : Int) (h0 : 0 ≤ v) (h1 : v < 4294967296) (w : World) : Calls Tryz.prog 95 #[.int .u32 v, .int .i64 p] w fun e w' => e = .returned (.int .u32 (aimV v p)) ∧ Below w.heap.size w w' := by
  have C := isaaim_any v p h0 h1 w
  go_enter Tryz.func95, Tryz.ntmps95
  go_wp2_with fail
  refine C.mono ?_
  rintro e w1 ⟨rfl, hb⟩
  go_wp2
  go_ret
  exact ⟨rfl, hb⟩
/-- A word that is moved. -/
def movV (v by' : Int) : Int := if isT v = true then aimV v (tgV v + by') else v
theorem moved_any (v : Int) (b : Nat) (h0 : 0 ≤ v) (h1 : v < 4294967296) (hb : b ≤ 67108928) (w : World) : Calls Tryz.prog 94 #[.int .u32 v, .int .i64 (b : Int)] w fun e w' => e = .returned (.int .u32 (movV v b)) ∧ Below w.heap.size w w' := by
  have C := isatarget_any v h0 h1 w
  have hg := tg_pos (v := v)
  have CA := aimed_any v (tgV v + b) h0 h1
  go_enter Tryz.func94, Tryz.ntmps94
  cases ht : isT v
  · have HV : Hid (movV v b = v) := by unfold Hid movV; rw [ht]; rfl
    rw [ht] at C
    clear hg CA ht
    go_wp2_with fail
    refine C.mono ?_
    rintro e w1 ⟨rfl, hb1⟩
    go_wp2
    go_ret
    exact ⟨by rw [HV.out]; rfl, hb1⟩
  · have HV : Hid (movV v b = aimV v (tgV v + b)) := by unfold Hid movV; rw [ht]; rfl
    obtain ⟨g0, g1⟩ := hg ht
    rw [ht] at C
    clear hg ht
    go_wp2_with fail
    refine C.mono ?_
    rintro e w1 ⟨rfl, hb1⟩
    go_wp2_with fail
    refine (CA w1).mono ?_
    rintro e w2 ⟨rfl, hb2⟩
    go_wp2
    go_ret
    exact ⟨by rw [HV.out]; rfl, lb_trans hb1 hb2⟩
/-- A place of the text is written over. -/
def PatP (g p : Nat) (v : Int) (w : World) (e : Ending) (w' : World) : Prop := e = .returned (.tuple #[]) ∧ ∃ w1, Below w.heap.size w w1 ∧ w' = w1.setCell ⟨g, p, none⟩ (.int .u32 v)
theorem patch_mov (g n c p b : Nat) (v : Int) (h0 : 0 ≤ v) (h1 : v < 4294967296) (hb : b ≤ 67108928) (w : World) (hp : p < n) (_hn : n ≤ 67108928) (hc : w.cell? ⟨g, p, none⟩ = some (.int .u32 v)) (hf : w.frozen? ⟨g, p, none⟩ = false) :
    Calls Tryz.prog 93 #[.slice (some ⟨g, 0, none⟩) n c, .int .i64 (p : Int), .func (.func 94) #[] #[], .int .i64 (b : Int)] w (PatP g p (movV v b) w) := by
  have C := moved_any v b h0 h1 hb w
  have hp' : (p : Int) < (n : Int) := by omega
  have hgl : g < w.heap.size := zcell_lt hc
  go_enter Tryz.func93, Tryz.ntmps93
  go_wp2_with fail
  refine C.mono ?_
  rintro e w1 ⟨rfl, hb1⟩
  have hc1 := lkeep hb1 hc
  have hf1 : w1.frozen? ⟨g, p, none⟩ = false := by rw [World.frozen?_of_block (hb1.block g hgl)]; exact hf
  clear C hc hf
  go_wp2
  go_end0
  exact ⟨rfl, w1, hb1, rfl⟩
theorem patch_aim (g n c p : Nat) (q : Int) (v : Int) (h0 : 0 ≤ v) (h1 : v < 4294967296) (w : World) (hp : p < n) (_hn : n ≤ 67108928) (hc : w.cell? ⟨g, p, none⟩ = some (.int .u32 v)) (hf : w.frozen? ⟨g, p, none⟩ = false) :
    Calls Tryz.prog 93 #[.slice (some ⟨g, 0, none⟩) n c, .int .i64 (p : Int), .func (.func 95) #[] #[], .int .i64 q] w (PatP g p (aimV v q) w) := by
  have C := aimed_any v q h0 h1 w
  have hp' : (p : Int) < (n : Int) := by omega
  have hgl : g < w.heap.size := zcell_lt hc
  go_enter Tryz.func93, Tryz.ntmps93
  go_wp2_with fail
  refine C.mono ?_
  rintro e w1 ⟨rfl, hb1⟩
  have hc1 := lkeep hb1 hc
  have hf1 : w1.frozen? ⟨g, p, none⟩ = false := by rw [World.frozen?_of_block (hb1.block g hgl)]; exact hf
  clear C hc hf
  go_wp2
  go_end0
  exact ⟨rfl, w1, hb1, rfl⟩
theorem placeOf_any (l : List Ob) (x : Nat) (y : Int) (B : Option Addr) (c : Nat) (w : World) (hB : IntsAt w B .i64 (basT l l.length)) (hx : x < l.length) (hb : bsF l x ≤ 67108928) (hy : 0 ≤ y ∧ y ≤ 67108928) :
    Calls Tryz.prog 40 #[.agg #[.int .i64 (x : Int), .int .i64 y], .slice B l.length c] w fun e w' => e = .returned (.int .i64 ((bsF l x : Int) + y)) ∧ Below w.heap.size w w' := by
  have hx' : (x : Int) < (l.length : Int) := by omega
  have hy0 := hy.1
  have hy1 := hy.2
  obtain ⟨W, hW⟩ : ∃ W, W = w.alloc (.cells #[.int .i64 (x : Int), .int .i64 y] 69) := ⟨_, rfl⟩
  have HB : Hid (Below w.heap.size w W) := by rw [Hid, hW]; exact lb_alloc (Below.refl _ _) _
  obtain ⟨aB, eB, k0⟩ := (hB.keep HB.out) x (by rw [basT_len]; exact hx)
  have k0' : W.cell? (aB.add x) = some (.int .i64 (bsF l x : Int)) := by rw [k0]; simp [basT, nth, hx]
  subst eB
  have s0 : W.cell? ⟨w.heap.size, 0, none⟩ = some (.int .i64 (x : Int)) := by rw [hW]; simp [go_sem]
  have s1 : W.cell? ⟨w.heap.size, 1, none⟩ = some (.int .i64 y) := by rw [hW]; simp [go_sem]
  clear hB hy k0
  go_enter Tryz.func40, Tryz.ntmps40
  go_upto_region 1 with fail
  rw [← hW]
  clear hW
  go_quiet (fail)
  have HBq : Hid (Below w.heap.size w (W.drewN nq)) := below_drewN HB.out _
  go_wp2
  go_ret
  exact ⟨rfl, HBq.out⟩

end Go.Proofs.YthpkekpojhmaaaaGreatDoor
