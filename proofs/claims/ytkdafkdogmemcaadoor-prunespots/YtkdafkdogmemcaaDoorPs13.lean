/-
  A bag of bytes: marked, grown, and looked at: all marks stand. A bag in memory; one more list in it. Numbers as marks. The marks behind a list of numbers, looked at by the document's helpers: true where they stand; the list is at most 2^20 long. The marks behind a list of symbols, of relocations, looked at by the document's helpers: true where they stand; the list is at most 2^20 long. The marks behind an object's lists, looked at by the document's helper: true where they stand; the lists are at most 2^20 long.
-/
import Derived.Test.YtkdafkdogmemcaaDoorProg
import Derived.WalkKit
import Derived.WalkSpells
import Derived.WalkLawsBesides
import Derived.RowKit3
import Derived.Below
import Derived.Deep.QuietTactic
import Derived.BigQuiet
import Derived.WalkSmall
import Derived.Laws.Rows
import Derived.Test.YtkdafkdogmemcaaDoorPs12
import Derived.Test.YtkdafkdogmemcaaDoorPs03
namespace Go.Proofs.YtkdafkdogmemcaaDoor
open Go.RowKit


def mkB (n i : Nat) : List Value := [.int .u8 ((31 * n + 7 * i + 3) % 256)]
theorem mkB_len (n i : Nat) : (mkB n i).length = 1 := rfl
theorem info31 : ∃ i, Tryd.prog.info? 75 = some i ∧ i.zero = some (.slice none 0 0) ∧ i.size = 1 ∧ i.bytes = 24 :=
  ⟨(Tryd.prog.info? 75).get (by kernel_rfl), by kernel_rfl, by kernel_rfl, by kernel_rfl, by kernel_rfl⟩
theorem cells_of {w : World} {T : TypeId} {size L k : Nat} {mk : Nat → Nat → List Value} {v : Value} (hmk : ∀ n i, (mk n i).length = size) (h : w.ownsRow 0 T size v L (marks mk k L)) (hL : 0 < L) :
    ∃ g c, v = .slice (some ⟨g, 0, none⟩) L c ∧ Hid (∀ j, j < L → ∀ p, p < size → ∀ u, (mk k j)[p]? = some u → w.cell? ⟨g, j * size + p, none⟩ = some u) := by
  obtain ⟨g, c, e, -, -⟩ := h.form hL
  rw [e] at h
  exact ⟨g, c, e, fun j hj p hp u hu => own_mark hmk h hj hp hu⟩
set_option maxRecDepth 100000 in
set_option maxHeartbeats 2000000 in
theorem apartbytes_any (B : Nat) (A : Option Addr) (cV : Nat) (rs : List (Value × Nat)) (w0 : World)
    (hbag : w0.cell? ⟨B, 0, none⟩ = some (.slice A rs.length cV)) (hV : w0.ownsRow 0 75 1 (.slice A rs.length cV) rs.length (rs.map Prod.fst))
    (hR : ∀ m, m < rs.length → ∃ xs, w0.ownsRow 0 5 1 (rv rs m) (rl rs m) xs) (hS : Sep rs) (hB : ∀ m, m < rs.length → (rv rs m).ownBlock ≠ some B)
    (hN : rs.length ≤ 300) (hL : ∀ m, rl rs m ≤ 1048576) :
    Calls Tryd.prog 23 #[.pointer (some ⟨B, 0, none⟩)] w0 fun r w' => r = .returned (.bool true) ∧ Fr rs w0 w' := by
  obtain ⟨i0, hi, hz0, hz1, hz2⟩ := info5
  obtain ⟨i1, hy, hy0, hy1, hy2⟩ := info31
  have HB : Hid (∀ w, Fr rs w0 w → w.cell? ⟨B, 0, none⟩ = some (.slice A rs.length cV)) := fun w h => h.cell hbag hB
  have HW : Hid (Wm 5 75 1 mkB rs (.slice A rs.length cV) w0 w0 0 0) := Wm.start hV hR
  clear hbag hV hR hB
  go_enter Tryd.func23, Tryd.ntmps23
  go_wp2
  go_loopw [3] (fun n wr => ∃ k : Nat, n = .int .i64 k ∧ k ≤ rs.length ∧ Hid (Wm 5 75 1 mkB rs (.slice A rs.length cV) w0 wr k 0)) (fun n _ => rs.length - (intOf n).toNat)
  case atStart => exact ⟨0, rfl, Nat.zero_le _, HW⟩
  case round =>
    clear HW
    obtain ⟨k, rfl, hk, HW⟩ := hrel
    have hb := HB.out _ HW.out.fr
    by_cases hlt : k < rs.length
    · have hLk := hL k
      obtain ⟨a, ea, q⟩ := bag_at HW.out.bag k hlt
      obtain ⟨xs, hx⟩ := HW.out.row hlt
      obtain ⟨A1, c1, e1, -⟩ := own_any hx
      rw [e1] at q
      have HE1 : Hid _ := e1
      clear hx e1
      go_wp2
      go_loopw [4] (fun i wr => ∃ j : Nat, i = .int .i64 j ∧ j ≤ rl rs k ∧ Hid (Wm 5 75 1 mkB rs (.slice A rs.length cV) w0 wr k j)) (fun i _ => rl rs k - (intOf i).toNat)
      case atStart => exact ⟨0, rfl, Nat.zero_le _, HW⟩
      case round =>
        clear HW hb q
        obtain ⟨j, rfl, hj, HW⟩ := hrel
        have hb := HB.out _ HW.out.fr
        obtain ⟨a', ea', q⟩ := bag_at HW.out.bag k hlt
        rw [ea] at ea'
        cases ea'
        rw [HE1.out] at q
        by_cases hlj : j < rl rs k
        · obtain ⟨xs, hx⟩ := HW.out.row hlt
          rw [HE1.out] at hx
          obtain ⟨g, cap, e2, -, -⟩ := hx.form (by omega)
          cases e2
          obtain ⟨u, hu⟩ := row_cell0 hx j (by omega)
          have hfr := hx.frozenAt j
          clear hx
          subst ea
          go_wp2
          go_roundw
          case rel => exact ⟨j + 1, by go_num, by omega, HW.out.step1 hS (by decide) hlt hlj HE1.out rfl⟩
          case measure => simp [intOf]; omega
        · obtain rfl : j = rl rs k := by omega
          subst ea
          go_wp2
          go_roundw
          case rel => exact ⟨k + 1, by go_num, by omega, HW.out.next⟩
          case measure => simp [intOf]; omega
    · obtain rfl : k = rs.length := by omega
      have HO : Hid _ := Wm.out hS HW.out
      clear HW
      go_wp2
      go_loopw [7, 5, 6] (fun n one more wr => ∃ (k : Nat) (os ms : List Value), n = .int .i64 k ∧ k ≤ rs.length ∧ os.length = k ∧ ms.length = k ∧ Hid (Out 5 75 1 mkB rs w0 wr k (.slice A rs.length cV) one more os ms)) (fun n _ _ _ => rs.length - (intOf n).toNat)
      case atStart => exact ⟨0, [], [], rfl, Nat.zero_le _, rfl, rfl, HO⟩
      case round =>
        clear HO hb hlt hk
        obtain ⟨k, os, ms, rfl, hk, hos', hms', HO⟩ := hrel
        have hos : Hid _ := hos'
        have hms : Hid _ := hms'
        clear hos' hms'
        have hb := HB.out _ HO.out.fr
        by_cases hlt : k < rs.length
        · have hLk := hL k
          obtain ⟨a, ea, q⟩ := bag_at HO.out.three.bag k hlt
          obtain ⟨A1, c1, e1, -⟩ := own_any (HO.out.row k hlt)
          have HA : Hid _ := HO.out.take hS hlt
          rw [e1] at q HA
          have HE1 : Hid _ := e1
          clear e1 HO
          go_wp2
          go_loopw [9, 8, 5] (fun i l one wr => ∃ (j : Nat) (os : List Value), i = .int .i64 j ∧ rl rs k ≤ j ∧ j ≤ rl rs k + 70 ∧ (j = rl rs k → os.length = k) ∧ (rl rs k < j → os.length = k + 1) ∧ Hid (Ap 5 75 1 mkB rs w0 wr k (.slice A rs.length cV) one u6 os ms l j)) (fun i _ _ _ => rl rs k + 70 - (intOf i).toNat)
          case atStart => exact ⟨rl rs k, os, rfl, Nat.le_refl _, by omega, fun _ => hos.out, fun h => by omega, HA⟩
          case round =>
            clear HA hb q hos os
            obtain ⟨j, os, rfl, hj0, hj1, ho0', ho1', HA⟩ := hrel
            have ho0 : Hid _ := ho0'
            have ho1 : Hid _ := ho1'
            clear ho0' ho1'
            have hb := HB.out _ HA.out.out.fr
            obtain ⟨a', ea', q⟩ := bag_at HA.out.out.three.bag k hlt
            rw [ea] at ea'
            cases ea'
            rw [HE1.out] at q
            by_cases hlj : j < rl rs k + 70
            · have HA2 : Hid _ := HA.out.alloc (.cells #[.int .u8 ((31 * (k : Int) + 7 * (j : Int) + 3) % 256)] 5)
              by_cases hjl : j = rl rs k
              · have hOS : Hid _ := ho0.out hjl
                subst hjl
                go_wp2_with (first | (at_builtin; refine wpList_append_two _ rfl (.tmp 82) (.tmp 90) 75 rfl 5 i0 (.int .u8 0) 1 1 Tryd.underlying75 hi hz0 hz1 hz2 rfl (by decide) _ (rl rs k) (marks mkB k (rl rs k)) rfl HA2.out.cur ⟨wr.heap.size, 0, none⟩ 1 1 (mkB k (rl rs k)) rfl rfl (fun j u hu => World.news_of_block (heap_alloc_new _ _) j u hu) (fun u hu => by cases hu with | head => rfl | tail _ h => cases h) (by omega) (by unfold maxLen; omega) (by omega) ?_; intro g cap w2 hown hgrow hat; have HA3 : Hid _ := Ap.grow mkB_len (by decide) (by decide) HA2.out hown hgrow hat; clear hown hgrow hat HA2 HA hb q; have hb := HB.out _ HA3.out.out.fr; obtain ⟨a', ea', q⟩ := bag_at HA3.out.out.three.bag k hlt; rw [ea] at ea'; cases ea'; rw [HE1.out] at q) | (at_builtin; refine wpList_append_two _ rfl (.tmp 102) (.tmp 104) 30 rfl 75 i1 (.slice none 0 0) 1 24 Tryd.underlying30 hy hy0 hy1 hy2 rfl (by decide) _ os.length os rfl (HA3.out.alloc _).out.three.one ⟨w2.heap.size, 0, none⟩ 1 1 [.slice (some ⟨g, 0, none⟩) (rl rs k + 1) cap] rfl rfl (fun j u hu => World.news_of_block (heap_alloc_new _ _) j u hu) (fun u hu => by cases hu with | head => rfl | tail _ h => cases h) (by omega) (by have := hOS.out; unfold maxLen; omega) (by have := hOS.out; omega) ?_; intro g2 cap2 w3 hown hgrow hat; have HA4 : Hid _ := Ap.addOne (by decide) (HA3.out.alloc _) rfl hOS.out hown hgrow hat; clear hown hgrow hat HA3 hb q))
                subst ea
                go_roundw
                case rel => exact ⟨_, _, _, ⟨rl rs k + 1, by go_num, by omega, by omega, _, fun h => by omega, fun _ => by rw [List.length_append, hOS.out]; rfl, HA4⟩, rfl, rfl, rfl⟩
                case measure => simp [intOf]
              · have hx : ((j : Int) == (rl rs k : Int)) = false := by simpa using (fun h => hjl (by omega))
                go_wp2_with (first | (at_builtin; refine wpList_append_two _ rfl (.tmp 82) (.tmp 90) 75 rfl 5 i0 (.int .u8 0) 1 1 Tryd.underlying75 hi hz0 hz1 hz2 rfl (by decide) _ j (marks mkB k j) rfl HA2.out.cur ⟨wr.heap.size, 0, none⟩ 1 1 (mkB k j) rfl rfl (fun j u hu => World.news_of_block (heap_alloc_new _ _) j u hu) (fun u hu => by cases hu with | head => rfl | tail _ h => cases h) (by omega) (by unfold maxLen; omega) (by omega) ?_; intro g cap w2 hown hgrow hat; have HA3 : Hid _ := Ap.grow mkB_len (by decide) (by decide) HA2.out hown hgrow hat; clear hown hgrow hat HA2 HA hb q; have hb := HB.out _ HA3.out.out.fr; obtain ⟨a', ea', q⟩ := bag_at HA3.out.out.three.bag k hlt; rw [ea] at ea'; cases ea'; rw [HE1.out] at q))
                subst ea
                go_roundw
                case rel => exact ⟨j + 1, os, by go_num, by omega, by omega, fun h => by omega, fun _ => ho1.out (by omega), HA3⟩
                case measure => simp [intOf]; omega
            · obtain rfl : j = rl rs k + 70 := by omega
              obtain ⟨Al, cl, rfl, -⟩ := own_any HA.out.cur
              go_wp2_with (at_builtin; refine wpList_append_two _ rfl (.tmp 106) (.tmp 108) 30 rfl 75 i1 (.slice none 0 0) 1 24 Tryd.underlying30 hy hy0 hy1 hy2 rfl (by decide) _ ms.length ms rfl (HA.out.alloc _).out.three.more ⟨wr.heap.size, 0, none⟩ 1 1 [.slice Al (rl rs k + 70) cl] rfl rfl (fun j u hu => World.news_of_block (heap_alloc_new _ _) j u hu) (fun u hu => by cases hu with | head => rfl | tail _ h => cases h) (by omega) (by have := hms.out; unfold maxLen; omega) (by have := hms.out; omega) ?_; intro g2 cap2 w3 hown hgrow hat; have HO : Hid _ := Ap.addMore (by decide) (HA.out.alloc _) rfl hms.out hown hgrow hat; clear hown hgrow hat HA hb q)
              subst ea
              go_roundw
              case rel => exact ⟨k + 1, os, _, by go_num, by omega, ho1.out (by omega), by rw [List.length_append, hms.out]; rfl, HO⟩
              case measure => simp [intOf]; omega
        · obtain rfl : k = rs.length := by omega
          clear hlt hk
          have h5 := HO.out.three.one
          have h6 := HO.out.three.more
          rw [hos.out] at h5
          rw [hms.out] at h6
          obtain ⟨A5, c5, rfl, -⟩ := own_any h5
          obtain ⟨A6, c6, rfl, -⟩ := own_any h6
          have H5 : Hid _ := h5
          have H6 : Hid _ := h6
          clear h5 h6
          go_wp2
          go_loopw [10] (fun n w2 => ∃ (k d : Nat), n = .int .i64 k ∧ k ≤ rs.length ∧ w2 = wr.drewN d) (fun n _ => rs.length - (intOf n).toNat)
          case atStart => exact ⟨0, 0, rfl, Nat.zero_le _, rfl⟩
          case round =>
            obtain ⟨k, d, rfl, hk, rfl⟩ := hrel
            by_cases hlt : k < rs.length
            · have hLk := hL k
              obtain ⟨a6, ea6, q6⟩ := outer_at H6.out k hlt
              obtain ⟨gm, cm, em, HM⟩ := cells_of mkB_len (HO.out.mores k (by rw [hms.out]; exact hlt)) (by omega)
              obtain ⟨a5, ea5, q5⟩ := outer_at H5.out k hlt
              obtain ⟨go, co, eo, HO5⟩ := cells_of mkB_len (HO.out.ones k (by rw [hos.out]; exact hlt)) (by omega)
              obtain ⟨a, ea, q⟩ := bag_at HO.out.three.bag k hlt
              obtain ⟨A1, c1, e1, -⟩ := own_any (HO.out.row k hlt)
              rw [em] at q6
              rw [eo] at q5
              rw [e1] at q
              have HE1 : Hid _ := e1
              clear em eo e1
              go_wp2
              go_loopw [11] (fun i w2 => ∃ (j d : Nat), i = .int .i64 j ∧ j ≤ rl rs k + 70 ∧ w2 = wr.drewN d) (fun i _ => rl rs k + 70 - (intOf i).toNat)
              case atStart => exact ⟨0, d, rfl, Nat.zero_le _, rfl⟩
              case round =>
                obtain ⟨j, d, rfl, hj, rfl⟩ := hrel
                by_cases hlj : j < rl rs k + 70
                · have m6 := HM.out j hlj 0 (by omega) _ rfl
                  rw [Nat.mul_one, Nat.add_zero] at m6
                  rcases Nat.lt_trichotomy j (rl rs k) with h1 | h1 | h1
                  · obtain ⟨g1, c1', e1, H1⟩ := cells_of mkB_len (HO.out.row k hlt) (by omega)
                    rw [HE1.out] at e1
                    cases e1
                    have m1 := H1.out j h1 0 (by omega) _ rfl
                    rw [Nat.mul_one, Nat.add_zero] at m1
                    have hx : ((j : Int) == (rl rs k : Int)) = false := by simpa using (fun h => absurd h1 (by omega))
                    subst ea ea5 ea6
                    go_wp2
                    go_roundw
                    case rel => exact ⟨j + 1, _, by go_num, by omega, rfl⟩
                    case measure => simp [intOf]; omega
                  · have m5 := HO5.out j (by omega) 0 (by omega) _ rfl
                    rw [Nat.mul_one, Nat.add_zero] at m5
                    subst ea ea5 ea6 h1
                    go_wp2
                    go_roundw
                    case rel => exact ⟨rl rs k + 1, _, by go_num, by omega, rfl⟩
                    case measure => simp [intOf]
                  · have hx : ((j : Int) == (rl rs k : Int)) = false := by simpa using (fun h => absurd h1 (by omega))
                    subst ea ea5 ea6
                    go_wp2
                    go_roundw
                    case rel => exact ⟨j + 1, _, by go_num, by omega, rfl⟩
                    case measure => simp [intOf]; omega
                · obtain rfl : j = rl rs k + 70 := by omega
                  subst ea ea5 ea6
                  go_wp2
                  go_roundw
                  case rel => exact ⟨k + 1, _, by go_num, by omega, rfl⟩
                  case measure => simp [intOf]; omega
            · obtain rfl : k = rs.length := by omega
              go_wp2
              go_ret
              exact ⟨rfl, HO.out.fr.os, HO.out.fr.tape, HO.out.fr.output, HO.out.fr.size, HO.out.fr.block⟩








end Go.Proofs.YtkdafkdogmemcaaDoor

namespace Go.Proofs.YtkdafkdogmemcaaDoor
open Go.RowKit


/-- A bag lies at B: its seventeen lists. -/
def BagIs (w : World) (B : Nat) (f : Nat → Value) : Prop := ∃ cs : Array Value, w.heap[B]? = some (.cells cs 48 (0, 0)) ∧ ∀ k, k < 17 → cs[k]? = some (f k)
def upd (f : Nat → Value) (K : Nat) (v : Value) : Nat → Value := fun k => if k = K then v else f k
theorem BagIs.cell {w : World} {B : Nat} {f : Nat → Value} (h : BagIs w B f) (k : Nat) (hk : k < 17) : w.cell? ⟨B, k, none⟩ = some (f k) := by
  obtain ⟨cs, h1, h2⟩ := h
  rw [cell_of_row w B k cs 48 (0, 0) h1]
  exact h2 k hk
theorem BagIs.fro {w : World} {B : Nat} {f : Nat → Value} (h : BagIs w B f) (k : Nat) : w.frozen? ⟨B, k, none⟩ = false := by
  obtain ⟨cs, h1, _⟩ := h
  exact frozen_of_row w B k cs 48 h1
theorem BagIs.lt {w : World} {B : Nat} {f : Nat → Value} (h : BagIs w B f) : B < w.heap.size := by
  obtain ⟨cs, h1, _⟩ := h
  exact (Array.getElem?_eq_some_iff.1 h1).1
theorem BagIs.keep {w w' : World} {B : Nat} {f : Nat → Value} (h : BagIs w B f) (e : w'.heap[B]? = w.heap[B]?) : BagIs w' B f := by
  obtain ⟨cs, h1, h2⟩ := h
  exact ⟨cs, e.trans h1, h2⟩
theorem BagIs.not {w : World} {B : Nat} {f : Nat → Value} (h : BagIs w B f) {e : TypeId} (he : e ≠ 48) : Not w e (some B) := fun b hb cur hc => by
  obtain ⟨cs, h1, _⟩ := h
  cases hb
  rw [h1] at hc
  simp only [Option.some.injEq, Obj.cells.injEq] at hc
  exact he hc.2.1.symm
theorem grown_set (w : World) (B k : Nat) (v : Value) : w.grownBy (w.setCell ⟨B, k, none⟩ v) (some B) :=
  ⟨rfl, rfl, rfl, by simp, fun b _ hb => heap_setCell_other w ⟨B, k, none⟩ b v (fun e => hb (by simp [e]))⟩
theorem BagIs.set {w : World} {B : Nat} {f : Nat → Value} (h : BagIs w B f) (K : Nat) (hK : K < 17) (v : Value) : BagIs (w.setCell ⟨B, K, none⟩ v) B (upd f K v) := by
  obtain ⟨cs, h1, h2⟩ := h
  refine ⟨cs.setIfInBounds K v, heap_setCell_same w B K cs 48 v h1, fun k hk => ?_⟩
  unfold upd
  rw [Array.getElem?_setIfInBounds]
  by_cases e : k = K
  · subst e
    have hlt : k < cs.size := (Array.getElem?_eq_some_iff.1 (h2 k hk)).1
    simp [hlt]
  · rw [if_neg (fun e2 => e e2.symm), if_neg e]
    exact h2 k hk
theorem BagIs.off {w : World} {B : Nat} {f : Nat → Value} (h : BagIs w B f) {base : Nat} {e : TypeId} {size : Nat} {v : Value} {n : Nat} {xs : List Value} (hv : w.ownsRow base e size v n xs) (he : e ≠ 48) : v.ownBlock ≠ some B := fun hb => by
  obtain ⟨cur, hc⟩ := own_block hv hb
  exact h.not he B rfl cur hc
/-- A list was put into a bag. -/
def Added (n B K : Nat) (TS : TypeId) (f : Nat → Value) (l : List Value) (v : Value) (w : World) (r : Ending) (w' : World) : Prop :=
  r = .returned (.tuple #[]) ∧ ∃ V, BagIs w' B (upd f K V) ∧ w'.ownsRow n TS 1 V (l.length + 1) (l ++ [v]) ∧ Below n w w' ∧ ∀ b, b < w.heap.size → b ≠ B → (f K).ownBlock ≠ some b → w'.heap[b]? = w.heap[b]?
theorem added {n B K : Nat} {TS : TypeId} {f : Nat → Value} {l : List Value} {v V : Value} {w w1 : World} (hTS : TS ≠ 48) (hK : K < 17) (hn : n ≤ B) (hb : BagIs w B f) (ho : w.ownsRow n TS 1 (f K) l.length l) (o : Obj) (ho1 : w1.ownsRow n TS 1 V (l.length + 1) (l ++ [v])) (hg : (w.alloc o).grownBy w1 (f K).ownBlock) : Added n B K TS f l v w (.returned (.tuple #[])) (w1.setCell ⟨B, K, none⟩ V) := by
  have hlt := hb.lt
  have hB1 : w1.heap[B]? = w.heap[B]? := by
    rw [hg.block B (by simp; omega) (fun e => hb.off ho hTS e.symm), Below.heap_alloc w o B hlt]
  have hb1 := hb.keep hB1
  refine ⟨rfl, V, hb1.set K hK V, own_other ho1 (grown_set _ _ _ _) (hb1.not hTS), ?_, fun b h1 h2 h3 => ?_⟩
  · refine Below.setCell ?_ hn _
    refine Below.grown ((Below.refl n w).alloc (by omega) o) hg (by simp; omega) (fun k hk => ?_)
    exact (ho.lt k hk).1
  · rw [heap_setCell_other _ _ _ _ (fun e => h2 e), hg.block b (by simp; omega) (fun e => h3 e.symm), Below.heap_alloc w o b h1]







end Go.Proofs.YtkdafkdogmemcaaDoor

namespace Go.Proofs.YtkdafkdogmemcaaDoor
open Go.RowKit


theorem num_wide (n i : Nat) (h0 : 0 ≤ n) (h1 : n ≤ 300) (h2 : 0 ≤ i) (h3 : i ≤ 2097152) (w : World) : Calls Tryd.prog 14 #[.int .i64 n, .int .i64 i] w fun e w' => e = .returned (.int .i64 (1048576 * (n : Int) + (i : Int) + 1)) ∧ w' = w := by
  go_enter Tryd.func14, Tryd.ntmps14
  go_wp2
  go_ret
  exact ⟨rfl, rfl⟩
theorem Wm.drew {T TS : TypeId} {size : Nat} {mk : Nat → Nat → List Value} {rs : List (Value × Nat)} {V : Value} {w0 w : World} {n i : Nat} (h : Wm T TS size mk rs V w0 w n i) : Wm T TS size mk rs V w0 w.drew n i :=
  ⟨h.wr, h.bag, h.fr.os, h.fr.tape, h.fr.output, h.fr.size, h.fr.block⟩
def mkL (n i : Nat) : List Value := [.int .i64 (1048576 * (n : Int) + (i : Int) + 1)]
theorem mkL_len (n i : Nat) : (mkL n i).length = 1 := rfl
def mkW (n i : Nat) : List Value := [.int .u32 (1048576 * (n : Int) + (i : Int) + 1)]
theorem mkW_len (n i : Nat) : (mkW n i).length = 1 := rfl








end Go.Proofs.YtkdafkdogmemcaaDoor

namespace Go.Proofs.YtkdafkdogmemcaaDoor
open Go.RowKit

def MarkI (w : World) (K : IntKind) (g n : Nat) : Prop := ∀ i, n ≤ i → i < n + 64 → w.cell? ⟨g, i, none⟩ = some (.int K (9437184 + i + 1))
def MarkS (w : World) (g n : Nat) : Prop := ∀ i, n ≤ i → i < n + 64 → w.cell? ⟨g, i * 3, none⟩ = some (.string ⟨#[]⟩) ∧ w.cell? ⟨g, i * 3 + 1, none⟩ = some (.int .i8 0) ∧ w.cell? ⟨g, i * 3 + 2, none⟩ = some (.int .i64 (9437184 + i + 1))
def MarkR (w : World) (g n : Nat) : Prop := ∀ i, n ≤ i → i < n + 64 → w.cell? ⟨g, i * 2, none⟩ = some (.int .i64 (9437184 + i + 1)) ∧ w.cell? ⟨g, i * 2 + 1, none⟩ = some (.int .i64 0)
theorem MarkI.keep {w w1 : World} {K : IntKind} {g n : Nat} (h : MarkI w K g n) (hb : Below w.heap.size w w1) : MarkI w1 K g n := fun i a b => lkeep hb (h i a b)
theorem MarkS.keep {w w1 : World} {g n : Nat} (h : MarkS w g n) (hb : Below w.heap.size w w1) : MarkS w1 g n := fun i a b => ⟨lkeep hb (h i a b).1, lkeep hb (h i a b).2.1, lkeep hb (h i a b).2.2⟩
theorem MarkR.keep {w w1 : World} {g n : Nat} (h : MarkR w g n) (hb : Below w.heap.size w w1) : MarkR w1 g n := fun i a b => ⟨lkeep hb (h i a b).1, lkeep hb (h i a b).2⟩




end Go.Proofs.YtkdafkdogmemcaaDoor
