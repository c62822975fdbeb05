/-
  A bag in memory; a row or a list of ports put into it. Marks of words and ports.
-/
import Derived.Test.YtdlcejpfjlpclaaGreatDoorProg
import Derived.WalkKit
import Derived.WalkSpells
import Derived.WalkLawsBesides
import Derived.RowKit3
import Derived.Below
import Derived.Deep.QuietTactic
import Derived.BigQuiet
import Derived.WalkSmall
import Derived.Laws.Rows
import Derived.Test.YtdlcejpfjlpclaaGreatDoorPr07
import Derived.Test.YtdlcejpfjlpclaaGreatDoorPr34
import Derived.Lib.BufferOwn
namespace Go.Proofs.YtdlcejpfjlpclaaGreatDoor
open Go.RowKit

/-- A bag lies at B: its seventeen lists. -/
def BagIs (w : World) (B : Nat) (f : Nat → Value) : Prop := ∃ cs : Array Value, w.heap[B]? = some (.cells cs 63 (0, 0)) ∧ ∀ k, k < 17 → cs[k]? = some (f k)
def upd (f : Nat → Value) (K : Nat) (v : Value) : Nat → Value := fun k => if k = K then v else f k
theorem BagIs.cell {w : World} {B : Nat} {f : Nat → Value} (h : BagIs w B f) (k : Nat) (hk : k < 17) : w.cell? ⟨B, k, none⟩ = some (f k) := by
  obtain ⟨cs, h1, h2⟩ := h
  rw [cell_of_row w B k cs 63 (0, 0) h1]
  exact h2 k hk
theorem BagIs.fro {w : World} {B : Nat} {f : Nat → Value} (h : BagIs w B f) (k : Nat) : w.frozen? ⟨B, k, none⟩ = false := by
  obtain ⟨cs, h1, _⟩ := h
  exact frozen_of_row w B k cs 63 h1
theorem BagIs.lt {w : World} {B : Nat} {f : Nat → Value} (h : BagIs w B f) : B < w.heap.size := by
  obtain ⟨cs, h1, _⟩ := h
  exact (Array.getElem?_eq_some_iff.1 h1).1
theorem BagIs.keep {w w' : World} {B : Nat} {f : Nat → Value} (h : BagIs w B f) (e : w'.heap[B]? = w.heap[B]?) : BagIs w' B f := by
  obtain ⟨cs, h1, h2⟩ := h
  exact ⟨cs, e.trans h1, h2⟩
theorem BagIs.not {w : World} {B : Nat} {f : Nat → Value} (h : BagIs w B f) {e : TypeId} (he : e ≠ 63) : Not w e (some B) := fun b hb cur hc => by
  obtain ⟨cs, h1, _⟩ := h
  cases hb
  rw [h1] at hc
  simp only [Option.some.injEq, Obj.cells.injEq] at hc
  exact he hc.2.1.symm
theorem grown_set (w : World) (B k : Nat) (v : Value) : w.grownBy (w.setCell ⟨B, k, none⟩ v) (some B) :=
  ⟨rfl, rfl, rfl, by simp, fun b _ hb => heap_setCell_other w ⟨B, k, none⟩ b v (fun e => hb (by simp [e]))⟩
theorem BagIs.set {w : World} {B : Nat} {f : Nat → Value} (h : BagIs w B f) (K : Nat) (hK : K < 17) (v : Value) : BagIs (w.setCell ⟨B, K, none⟩ v) B (upd f K v) := by
  obtain ⟨cs, h1, h2⟩ := h
  refine ⟨cs.setIfInBounds K v, heap_setCell_same w B K cs 63 v h1, fun k hk => ?_⟩
  unfold upd
  rw [Array.getElem?_setIfInBounds]
  by_cases e : k = K
  · subst e
    have hlt : k < cs.size := (Array.getElem?_eq_some_iff.1 (h2 k hk)).1
    simp [hlt]
  · rw [if_neg (fun e2 => e e2.symm), if_neg e]
    exact h2 k hk
theorem BagIs.off {w : World} {B : Nat} {f : Nat → Value} (h : BagIs w B f) {base : Nat} {e : TypeId} {size : Nat} {v : Value} {n : Nat} {xs : List Value} (hv : w.ownsRow base e size v n xs) (he : e ≠ 63) : v.ownBlock ≠ some B := fun hb => by
  obtain ⟨cur, hc⟩ := own_block hv hb
  exact h.not he B rfl cur hc
/-- A list was put into a bag. -/
def Added (n B K : Nat) (TS : TypeId) (f : Nat → Value) (l : List Value) (v : Value) (w : World) (r : Ending) (w' : World) : Prop :=
  r = .returned (.tuple #[]) ∧ ∃ V, BagIs w' B (upd f K V) ∧ w'.ownsRow n TS 1 V (l.length + 1) (l ++ [v]) ∧ Below n w w' ∧ ∀ b, b < w.heap.size → b ≠ B → (f K).ownBlock ≠ some b → w'.heap[b]? = w.heap[b]?
theorem added {n B K : Nat} {TS : TypeId} {f : Nat → Value} {l : List Value} {v V : Value} {w w1 : World} (hTS : TS ≠ 63) (hK : K < 17) (hn : n ≤ B) (hb : BagIs w B f) (ho : w.ownsRow n TS 1 (f K) l.length l) (o : Obj) (ho1 : w1.ownsRow n TS 1 V (l.length + 1) (l ++ [v])) (hg : (w.alloc o).grownBy w1 (f K).ownBlock) : Added n B K TS f l v w (.returned (.tuple #[])) (w1.setCell ⟨B, K, none⟩ V) := by
  have hlt := hb.lt
  have hB1 : w1.heap[B]? = w.heap[B]? := by
    rw [hg.block B (by simp; omega) (fun e => hb.off ho hTS e.symm), Below.heap_alloc w o B hlt]
  have hb1 := hb.keep hB1
  refine ⟨rfl, V, hb1.set K hK V, own_other ho1 (grown_set _ _ _ _) (hb1.not hTS), ?_, fun b h1 h2 h3 => ?_⟩
  · refine Below.setCell ?_ hn _
    refine Below.grown ((Below.refl n w).alloc (by omega) o) hg (by simp; omega) (fun k hk => ?_)
    exact (ho.lt k hk).1
  · rw [heap_setCell_other _ _ _ _ (fun e => h2 e), hg.block b (by simp; omega) (fun e => h3 e.symm), Below.heap_alloc w o b h1]

theorem infoO65 : ∃ i, Tryz.prog.info? 65 = some i ∧ i.zero = some (.slice none 0 0) ∧ i.size = 1 ∧ i.bytes = 24 :=
  ⟨(Tryz.prog.info? 65).get (by kernel_rfl), by kernel_rfl, by kernel_rfl, by kernel_rfl, by kernel_rfl⟩
set_option maxRecDepth 100000 in
set_option maxHeartbeats 1000000 in
theorem addrow_any (n B : Nat) (f : Nat → Value) (l : List Value) (A : Option Addr) (m c : Nat) (w : World) (hn : n ≤ B) (hb : BagIs w B f) (ho : w.ownsRow n 65 1 (f 6) l.length l) (hl : l.length < 300) :
    Calls Tryz.prog 16 #[.pointer (some ⟨B, 0, none⟩), .slice A m c] w (Added n B 6 65 f l (.slice A m c) w) := by
  obtain ⟨i1, hy, hy0, hy1, hy2⟩ := infoO65
  have h0 := hb.cell 6 (by omega)
  obtain ⟨A0, c0, e0, -⟩ := own_any ho
  have HE : Hid (f 6 = .slice A0 l.length c0) := e0
  have hx := fun v w1 (h1 : w1.ownsRow n 65 1 v (l.length + 1) (l ++ [.slice A m c])) (h2 : (w.alloc (.cells #[.slice A m c] 65)).grownBy w1 (f 6).ownBlock) => added (V := v) (by decide) (by omega) hn hb ho (.cells #[.slice A m c] 65) h1 h2
  have HX : Hid _ := hx
  have ho1 := ho.alloc (.cells #[.slice A m c] 65)
  have HF : Hid (BagIs w B f) := hb
  have hlt := hb.lt
  have hlo := fun k (hk : (f 6).ownBlock = some k) => (ho.lt k hk).2
  have hne := hb.off ho (by decide)
  rw [e0] at h0 ho1
  have HL : Hid _ := hlt
  have HL2 : Hid _ := hne
  clear e0 hb ho hx hlt hlo hne
  go_enter Tryz.func16, Tryz.ntmps16
  go_wp2_with (at_builtin; go_loud (refine wpList_append_own _ rfl (.tmp 14) (.tmp 16) 51 rfl n 65 i1 (.slice none 0 0) 1 24 Tryz.underlying51 hy hy0 hy1 hy2 rfl (by decide) _ l.length l rfl ho1 ⟨w.heap.size, 0, none⟩ 1 1 [.slice A m c] rfl rfl (fun j u hu => World.news_of_block (heap_alloc_new _ _) j u hu) (fun u hu => by cases hu with | head => rfl | tail _ h => cases h) (by unfold maxLen; omega) (by omega) (by have := HL.out; simp; omega) ?_; intro v1 w1 hown hgrow _; rw [← HE.out] at hgrow; have HP : Hid _ := HX.out v1 w1 hown hgrow; have hB1 := HF.out.keep (show w1.heap[B]? = w.heap[B]? by rw [hgrow.block B (by have := HL.out; simp; omega) (fun e => HL2.out e.symm), Below.heap_alloc w _ B HL.out]); have hfr := hB1.fro 6; have hce := hB1.cell 6 (by omega); obtain ⟨Av, cv, ev, -⟩ := own_any hown; subst ev; clear hown hgrow hB1 ho1 HX))
  go_end0
  exact ⟨rfl, HP.out.2⟩

theorem infoO68 : ∃ i, Tryz.prog.info? 68 = some i ∧ i.zero = some (.slice none 0 0) ∧ i.size = 1 ∧ i.bytes = 24 :=
  ⟨(Tryz.prog.info? 68).get (by kernel_rfl), by kernel_rfl, by kernel_rfl, by kernel_rfl, by kernel_rfl⟩
set_option maxRecDepth 100000 in
set_option maxHeartbeats 1000000 in
theorem addports_any (n B : Nat) (f : Nat → Value) (l : List Value) (A : Option Addr) (m c : Nat) (w : World) (hn : n ≤ B) (hb : BagIs w B f) (ho : w.ownsRow n 68 1 (f 10) l.length l) (hl : l.length < 300) :
    Calls Tryz.prog 18 #[.pointer (some ⟨B, 0, none⟩), .slice A m c] w (Added n B 10 68 f l (.slice A m c) w) := by
  obtain ⟨i1, hy, hy0, hy1, hy2⟩ := infoO68
  have h0 := hb.cell 10 (by omega)
  obtain ⟨A0, c0, e0, -⟩ := own_any ho
  have HE : Hid (f 10 = .slice A0 l.length c0) := e0
  have hx := fun v w1 (h1 : w1.ownsRow n 68 1 v (l.length + 1) (l ++ [.slice A m c])) (h2 : (w.alloc (.cells #[.slice A m c] 68)).grownBy w1 (f 10).ownBlock) => added (V := v) (by decide) (by omega) hn hb ho (.cells #[.slice A m c] 68) h1 h2
  have HX : Hid _ := hx
  have ho1 := ho.alloc (.cells #[.slice A m c] 68)
  have HF : Hid (BagIs w B f) := hb
  have hlt := hb.lt
  have hlo := fun k (hk : (f 10).ownBlock = some k) => (ho.lt k hk).2
  have hne := hb.off ho (by decide)
  rw [e0] at h0 ho1
  have HL : Hid _ := hlt
  have HL2 : Hid _ := hne
  clear e0 hb ho hx hlt hlo hne
  go_enter Tryz.func18, Tryz.ntmps18
  go_wp2_with (at_builtin; go_loud (refine wpList_append_own _ rfl (.tmp 14) (.tmp 16) 55 rfl n 68 i1 (.slice none 0 0) 1 24 Tryz.underlying55 hy hy0 hy1 hy2 rfl (by decide) _ l.length l rfl ho1 ⟨w.heap.size, 0, none⟩ 1 1 [.slice A m c] rfl rfl (fun j u hu => World.news_of_block (heap_alloc_new _ _) j u hu) (fun u hu => by cases hu with | head => rfl | tail _ h => cases h) (by unfold maxLen; omega) (by omega) (by have := HL.out; simp; omega) ?_; intro v1 w1 hown hgrow _; rw [← HE.out] at hgrow; have HP : Hid _ := HX.out v1 w1 hown hgrow; have hB1 := HF.out.keep (show w1.heap[B]? = w.heap[B]? by rw [hgrow.block B (by have := HL.out; simp; omega) (fun e => HL2.out e.symm), Below.heap_alloc w _ B HL.out]); have hfr := hB1.fro 10; have hce := hB1.cell 10 (by omega); obtain ⟨Av, cv, ev, -⟩ := own_any hown; subst ev; clear hown hgrow hB1 ho1 HX))
  go_end0
  exact ⟨rfl, HP.out.2⟩

end Go.Proofs.YtdlcejpfjlpclaaGreatDoor

namespace Go.Proofs.YtdlcejpfjlpclaaGreatDoor
open Go.RowKit

theorem num_wide (n i : Nat) (h0 : 0 ≤ n) (h1 : n ≤ 300) (h2 : 0 ≤ i) (h3 : i ≤ 2097152) (w : World) : Calls Tryz.prog 67 #[.int .i64 n, .int .i64 i] w fun e w' => e = .returned (.int .i64 (1048576 * (n : Int) + (i : Int) + 1)) ∧ w' = w := by
  go_enter Tryz.func67, Tryz.ntmps67
  go_wp2
  go_ret
  exact ⟨rfl, rfl⟩
theorem Wm.drew {T TS : TypeId} {size : Nat} {mk : Nat → Nat → List Value} {rs : List (Value × Nat)} {V : Value} {w0 w : World} {n i : Nat} (h : Wm T TS size mk rs V w0 w n i) : Wm T TS size mk rs V w0 w.drew n i :=
  ⟨h.wr, h.bag, h.fr.os, h.fr.tape, h.fr.output, h.fr.size, h.fr.block⟩

def mkWd (n i : Nat) : List Value := [.int .i64 (1048576 * (n : Int) + (i : Int) + 1), .bool false]
theorem mkWd_len (n i : Nat) : (mkWd n i).length = 2 := rfl
theorem mkWd_one (n i : Nat) : ∀ u ∈ mkWd n i, u.oneCell' = true := by simp [mkWd, Value.oneCell']
def mkPt (n i : Nat) : List Value := [.int .i64 0, .int .i64 (1048576 * (n : Int) + (i : Int) + 1)]
theorem mkPt_len (n i : Nat) : (mkPt n i).length = 2 := rfl
theorem mkPt_one (n i : Nat) : ∀ u ∈ mkPt n i, u.oneCell' = true := by simp [mkPt, Value.oneCell']
theorem infoWd : ∃ i, Tryz.prog.info? 71 = some i ∧ i.zero = some (.agg #[.int .i64 0, .bool false]) ∧ i.size = 2 ∧ i.bytes = 16 :=
  ⟨(Tryz.prog.info? 71).get (by kernel_rfl), by kernel_rfl, by kernel_rfl, by kernel_rfl, by kernel_rfl⟩
theorem infoPt : ∃ i, Tryz.prog.info? 100 = some i ∧ i.zero = some (.agg #[.int .i64 0, .int .i64 0]) ∧ i.size = 2 ∧ i.bytes = 16 :=
  ⟨(Tryz.prog.info? 100).get (by kernel_rfl), by kernel_rfl, by kernel_rfl, by kernel_rfl, by kernel_rfl⟩
theorem Fr.trans {rs : List (Value × Nat)} {w0 w w' : World} (h : Fr rs w0 w) (hb : Below w.heap.size w w') : Fr rs w0 w' :=
  ⟨hb.os.trans h.os, hb.tape.trans h.tape, hb.output.trans h.output, Nat.le_trans h.size hb.size, fun b h1 h2 => (hb.block b (Nat.lt_of_lt_of_le h1 h.size)).trans (h.block b h1 h2)⟩

end Go.Proofs.YtdlcejpfjlpclaaGreatDoor
