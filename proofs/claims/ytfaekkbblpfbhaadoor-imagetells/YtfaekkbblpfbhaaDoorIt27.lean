/-
  A bag in memory; one more list in it. A bag that has lists of bytes alone: they lie apart.
-/
import Derived.Test.YtfaekkbblpfbhaaDoorProg
import Derived.WalkKit
import Derived.WalkSpells
import Derived.WalkLawsBesides
import Derived.RowKit3
import Derived.Below
import Derived.Deep.QuietTactic
import Derived.BigQuiet
import Derived.WalkSmall
import Derived.Laws.Rows
import Derived.Test.YtfaekkbblpfbhaaDoorIt22
import Derived.Test.YtfaekkbblpfbhaaDoorIt24
import Derived.Test.YtfaekkbblpfbhaaDoorIt08
import Derived.Test.YtfaekkbblpfbhaaDoorIt25
import Derived.Test.YtfaekkbblpfbhaaDoorIt26
namespace Go.Proofs.YtfaekkbblpfbhaaDoor
open Go.RowKit


/-- A bag lies at B: its seventeen lists. -/
def BagIs (w : World) (B : Nat) (f : Nat → Value) : Prop := ∃ cs : Array Value, w.heap[B]? = some (.cells cs 56 (0, 0)) ∧ ∀ k, k < 17 → cs[k]? = some (f k)
def upd (f : Nat → Value) (K : Nat) (v : Value) : Nat → Value := fun k => if k = K then v else f k
theorem BagIs.cell {w : World} {B : Nat} {f : Nat → Value} (h : BagIs w B f) (k : Nat) (hk : k < 17) : w.cell? ⟨B, k, none⟩ = some (f k) := by
  obtain ⟨cs, h1, h2⟩ := h
  rw [cell_of_row w B k cs 56 (0, 0) h1]
  exact h2 k hk
theorem BagIs.fro {w : World} {B : Nat} {f : Nat → Value} (h : BagIs w B f) (k : Nat) : w.frozen? ⟨B, k, none⟩ = false := by
  obtain ⟨cs, h1, _⟩ := h
  exact frozen_of_row w B k cs 56 h1
theorem BagIs.lt {w : World} {B : Nat} {f : Nat → Value} (h : BagIs w B f) : B < w.heap.size := by
  obtain ⟨cs, h1, _⟩ := h
  exact (Array.getElem?_eq_some_iff.1 h1).1
theorem BagIs.keep {w w' : World} {B : Nat} {f : Nat → Value} (h : BagIs w B f) (e : w'.heap[B]? = w.heap[B]?) : BagIs w' B f := by
  obtain ⟨cs, h1, h2⟩ := h
  exact ⟨cs, e.trans h1, h2⟩
theorem BagIs.not {w : World} {B : Nat} {f : Nat → Value} (h : BagIs w B f) {e : TypeId} (he : e ≠ 56) : Not w e (some B) := fun b hb cur hc => by
  obtain ⟨cs, h1, _⟩ := h
  cases hb
  rw [h1] at hc
  simp only [Option.some.injEq, Obj.cells.injEq] at hc
  exact he hc.2.1.symm
theorem grown_set (w : World) (B k : Nat) (v : Value) : w.grownBy (w.setCell ⟨B, k, none⟩ v) (some B) :=
  ⟨rfl, rfl, rfl, by simp, fun b _ hb => heap_setCell_other w ⟨B, k, none⟩ b v (fun e => hb (by simp [e]))⟩
theorem BagIs.set {w : World} {B : Nat} {f : Nat → Value} (h : BagIs w B f) (K : Nat) (hK : K < 17) (v : Value) : BagIs (w.setCell ⟨B, K, none⟩ v) B (upd f K v) := by
  obtain ⟨cs, h1, h2⟩ := h
  refine ⟨cs.setIfInBounds K v, heap_setCell_same w B K cs 56 v h1, fun k hk => ?_⟩
  unfold upd
  rw [Array.getElem?_setIfInBounds]
  by_cases e : k = K
  · subst e
    have hlt : k < cs.size := (Array.getElem?_eq_some_iff.1 (h2 k hk)).1
    simp [hlt]
  · rw [if_neg (fun e2 => e e2.symm), if_neg e]
    exact h2 k hk
theorem BagIs.off {w : World} {B : Nat} {f : Nat → Value} (h : BagIs w B f) {base : Nat} {e : TypeId} {size : Nat} {v : Value} {n : Nat} {xs : List Value} (hv : w.ownsRow base e size v n xs) (he : e ≠ 56) : v.ownBlock ≠ some B := fun hb => by
  obtain ⟨cur, hc⟩ := own_block hv hb
  exact h.not he B rfl cur hc
/-- A list was put into a bag. -/
def Added (n B K : Nat) (TS : TypeId) (f : Nat → Value) (l : List Value) (v : Value) (w : World) (r : Ending) (w' : World) : Prop :=
  r = .returned (.tuple #[]) ∧ ∃ V, BagIs w' B (upd f K V) ∧ w'.ownsRow n TS 1 V (l.length + 1) (l ++ [v]) ∧ Below n w w' ∧ ∀ b, b < w.heap.size → b ≠ B → (f K).ownBlock ≠ some b → w'.heap[b]? = w.heap[b]?
theorem added {n B K : Nat} {TS : TypeId} {f : Nat → Value} {l : List Value} {v V : Value} {w w1 : World} (hTS : TS ≠ 56) (hK : K < 17) (hn : n ≤ B) (hb : BagIs w B f) (ho : w.ownsRow n TS 1 (f K) l.length l) (o : Obj) (ho1 : w1.ownsRow n TS 1 V (l.length + 1) (l ++ [v])) (hg : (w.alloc o).grownBy w1 (f K).ownBlock) : Added n B K TS f l v w (.returned (.tuple #[])) (w1.setCell ⟨B, K, none⟩ V) := by
  have hlt := hb.lt
  have hB1 : w1.heap[B]? = w.heap[B]? := by
    rw [hg.block B (by simp; omega) (fun e => hb.off ho hTS e.symm), Below.heap_alloc w o B hlt]
  have hb1 := hb.keep hB1
  refine ⟨rfl, V, hb1.set K hK V, own_other ho1 (grown_set _ _ _ _) (hb1.not hTS), ?_, fun b h1 h2 h3 => ?_⟩
  · refine Below.setCell ?_ hn _
    refine Below.grown ((Below.refl n w).alloc (by omega) o) hg (by simp; omega) (fun k hk => ?_)
    exact (ho.lt k hk).1
  · rw [heap_setCell_other _ _ _ _ (fun e => h2 e), hg.block b (by simp; omega) (fun e => h3 e.symm), Below.heap_alloc w o b h1]

set_option maxRecDepth 100000 in
set_option maxHeartbeats 1000000 in
theorem addbytes_any (n B : Nat) (f : Nat → Value) (l : List Value) (A : Option Addr) (m c : Nat) (w : World) (hn : n ≤ B) (hb : BagIs w B f) (ho : w.ownsRow n 32 1 (f 0) l.length l) (hl : l.length < 300) :
    Calls Tryd.prog 16 #[.pointer (some ⟨B, 0, none⟩), .slice A m c] w (Added n B 0 32 f l (.slice A m c) w) := by
  obtain ⟨i1, hy, hy0, hy1, hy2⟩ := info31
  have h0 := hb.cell 0 (by omega)
  obtain ⟨A0, c0, e0, -⟩ := own_any ho
  have HE : Hid (f 0 = .slice A0 l.length c0) := e0
  have hx := fun v w1 (h1 : w1.ownsRow n 32 1 v (l.length + 1) (l ++ [.slice A m c])) (h2 : (w.alloc (.cells #[.slice A m c] 32)).grownBy w1 (f 0).ownBlock) => added (V := v) (by decide) (by omega) hn hb ho (.cells #[.slice A m c] 32) h1 h2
  have HX : Hid _ := hx
  have ho1 := ho.alloc (.cells #[.slice A m c] 32)
  have HF : Hid (BagIs w B f) := hb
  have hlt := hb.lt
  have hlo := fun k (hk : (f 0).ownBlock = some k) => (ho.lt k hk).2
  have hne := hb.off ho (by decide)
  rw [e0] at h0 ho1
  have HL : Hid _ := hlt
  have HL2 : Hid _ := hne
  clear e0 hb ho hx hlt hlo hne
  go_enter Tryd.func16, Tryd.ntmps16
  go_wp2_with (at_builtin; go_loud (refine wpList_append_own _ rfl (.tmp 14) (.tmp 16) 38 rfl n 32 i1 (.slice none 0 0) 1 24 Tryd.underlying38 hy hy0 hy1 hy2 rfl (by decide) _ l.length l rfl ho1 ⟨w.heap.size, 0, none⟩ 1 1 [.slice A m c] rfl rfl (fun j u hu => World.news_of_block (heap_alloc_new _ _) j u hu) (fun u hu => by cases hu with | head => rfl | tail _ h => cases h) (by unfold maxLen; omega) (by omega) (by have := HL.out; simp; omega) ?_; intro v1 w1 hown hgrow _; rw [← HE.out] at hgrow; have HP : Hid _ := HX.out v1 w1 hown hgrow; have hB1 := HF.out.keep (show w1.heap[B]? = w.heap[B]? by rw [hgrow.block B (by have := HL.out; simp; omega) (fun e => HL2.out e.symm), Below.heap_alloc w _ B HL.out]); have hfr := hB1.fro 0; have hce := hB1.cell 0 (by omega); obtain ⟨Av, cv, ev, -⟩ := own_any hown; subst ev; clear hown hgrow hB1 ho1 HX))
  go_end0
  exact ⟨rfl, HP.out.2⟩


end Go.Proofs.YtfaekkbblpfbhaaDoor

namespace Go.Proofs.YtfaekkbblpfbhaaDoor
open Go.RowKit


theorem apartB (B : Nat) (f : Nat → Value) (rs : List (Value × Nat)) (w1 : World) (hb : BagIs w1 B f) (h0 : w1.ownsRow 0 32 1 (f 0) rs.length (rs.map Prod.fst)) (hnil : ∀ k, 1 ≤ k → k < 17 → f k = .slice none 0 0)
    (hR : ∀ m, m < rs.length → ∃ xs, w1.ownsRow 0 5 1 (rv rs m) (rl rs m) xs) (hS : Sep rs) (hN : rs.length ≤ 300) (hL : ∀ m, rl rs m ≤ 1048576) :
    Calls Tryd.prog 17 #[.pointer (some ⟨B, 0, none⟩)] w1 fun r w' => r = .returned (.bool true) ∧ Fr rs w1 w' := by
  have hB : ∀ m, m < rs.length → (rv rs m).ownBlock ≠ some B := fun m hm => by
    obtain ⟨xs, hx⟩ := hR m hm
    exact hb.off hx (by decide)
  have HN : ∀ w, Fr rs w1 w → ∀ k, 1 ≤ k → k < 17 → w.cell? ⟨B, k, none⟩ = some (.slice none 0 0) := fun w h k h1 h2 => h.cell (by rw [hb.cell k h2, hnil k h1 h2]) hB
  refine (apart_any B (fun k w => Fr rs w1 w ∧ (k = 0 → w = w1)) ?_ w1 ⟨Fr.refl rs w1, fun _ => rfl⟩).mono fun r w' h => ⟨h.1, h.2.1⟩
  intro k hk w hF
  have hq : k = 0 ∨ k = 1 ∨ k = 2 ∨ k = 3 ∨ k = 4 ∨ k = 5 ∨ k = 6 ∨ k = 7 ∨ k = 8 ∨ k = 9 ∨ k = 10 ∨ k = 11 ∨ k = 12 ∨ k = 13 ∨ k = 14 ∨ k = 15 ∨ k = 16 := by omega
  rcases hq with rfl | rfl | rfl | rfl | rfl | rfl | rfl | rfl | rfl | rfl | rfl | rfl | rfl | rfl | rfl | rfl | rfl
  · obtain rfl := hF.2 rfl
    obtain ⟨A, c, e, -⟩ := own_any h0
    have hc := hb.cell 0 (by omega)
    rw [e] at hc h0
    exact (apartbytes_any B A c rs w hc h0 hR hS hB hN hL).mono fun r w' h => ⟨h.1, h.2, fun e => by omega⟩
  · exact ((none_43 B w (HN w hF.1 1 (by omega) (by omega))).mono fun r w' h => ⟨h.1, by rw [h.2]; exact hF.1, fun e => by omega⟩)
  · exact ((none_44 B w (HN w hF.1 2 (by omega) (by omega))).mono fun r w' h => ⟨h.1, by rw [h.2]; exact hF.1, fun e => by omega⟩)
  · exact ((none_45 B w (HN w hF.1 3 (by omega) (by omega))).mono fun r w' h => ⟨h.1, by rw [h.2]; exact hF.1, fun e => by omega⟩)
  · exact ((none_46 B w (HN w hF.1 4 (by omega) (by omega))).mono fun r w' h => ⟨h.1, by rw [h.2]; exact hF.1, fun e => by omega⟩)
  · exact ((none_47 B w (HN w hF.1 5 (by omega) (by omega))).mono fun r w' h => ⟨h.1, by rw [h.2]; exact hF.1, fun e => by omega⟩)
  · exact ((none_48 B w (HN w hF.1 6 (by omega) (by omega))).mono fun r w' h => ⟨h.1, by rw [h.2]; exact hF.1, fun e => by omega⟩)
  · exact ((none_49 B w (HN w hF.1 7 (by omega) (by omega))).mono fun r w' h => ⟨h.1, by rw [h.2]; exact hF.1, fun e => by omega⟩)
  · exact ((none_50 B w (HN w hF.1 8 (by omega) (by omega))).mono fun r w' h => ⟨h.1, by rw [h.2]; exact hF.1, fun e => by omega⟩)
  · exact ((none_51 B w (HN w hF.1 9 (by omega) (by omega))).mono fun r w' h => ⟨h.1, by rw [h.2]; exact hF.1, fun e => by omega⟩)
  · exact ((none_52 B w (HN w hF.1 10 (by omega) (by omega))).mono fun r w' h => ⟨h.1, by rw [h.2]; exact hF.1, fun e => by omega⟩)
  · exact ((none_53 B w (HN w hF.1 11 (by omega) (by omega))).mono fun r w' h => ⟨h.1, by rw [h.2]; exact hF.1, fun e => by omega⟩)
  · exact ((none_54 B w (HN w hF.1 12 (by omega) (by omega))).mono fun r w' h => ⟨h.1, by rw [h.2]; exact hF.1, fun e => by omega⟩)
  · exact ((none_55 B w (HN w hF.1 13 (by omega) (by omega))).mono fun r w' h => ⟨h.1, by rw [h.2]; exact hF.1, fun e => by omega⟩)
  · exact ((none_56 B w (HN w hF.1 14 (by omega) (by omega))).mono fun r w' h => ⟨h.1, by rw [h.2]; exact hF.1, fun e => by omega⟩)
  · exact ((none_57 B w (HN w hF.1 15 (by omega) (by omega))).mono fun r w' h => ⟨h.1, by rw [h.2]; exact hF.1, fun e => by omega⟩)
  · exact ((none_58 B w (HN w hF.1 16 (by omega) (by omega))).mono fun r w' h => ⟨h.1, by rw [h.2]; exact hF.1, fun e => by omega⟩)


end Go.Proofs.YtfaekkbblpfbhaaDoor
