/-
  A bag: do its lists lie apart? Kind by kind. A bag in memory; one more list in it.
-/
import Derived.Test.YtfaekkbblpfbhaaDoorProg
import Derived.WalkKit
import Derived.WalkSpells
import Derived.WalkLawsBesides
import Derived.RowKit3
import Derived.Below
import Derived.Deep.QuietTactic
import Derived.BigQuiet
import Derived.WalkSmall
import Derived.Laws.Rows
import Derived.Test.YtfaekkbblpfbhaaDoorIr22
import Derived.Test.YtfaekkbblpfbhaaDoorIr24
import Derived.Test.YtfaekkbblpfbhaaDoorIr08
namespace Go.Proofs.YtfaekkbblpfbhaaDoor
open Go.RowKit


set_option maxRecDepth 100000 in
set_option maxHeartbeats 2000000 in
theorem apart_any (B : Nat) (I : Nat → World → Prop) (h : ∀ k, k < 17 → ∀ w, I k w → Calls Tryd.prog (42 + k) #[.pointer (some ⟨B, 0, none⟩)] w fun r w' => r = .returned (.bool true) ∧ I (k + 1) w') (w0 : World) (h0 : I 0 w0) :
    Calls Tryd.prog 17 #[.pointer (some ⟨B, 0, none⟩)] w0 fun r w' => r = .returned (.bool true) ∧ I 17 w' := by
  have H : Hid _ := h
  have H0 : Hid _ := h0
  clear h h0
  go_enter Tryd.func17, Tryd.ntmps17
  go_wp2_with fail
  refine (H.out 0 (by omega) _ H0.out).mono ?_
  rintro r w1 ⟨rfl, h1⟩
  have H1 : Hid _ := h1
  clear h1
  go_wp2_with fail
  refine (H.out 1 (by omega) _ H1.out).mono ?_
  rintro r w2 ⟨rfl, h2⟩
  have H2 : Hid _ := h2
  clear h2
  go_wp2_with fail
  refine (H.out 2 (by omega) _ H2.out).mono ?_
  rintro r w3 ⟨rfl, h3⟩
  have H3 : Hid _ := h3
  clear h3
  go_wp2_with fail
  refine (H.out 3 (by omega) _ H3.out).mono ?_
  rintro r w4 ⟨rfl, h4⟩
  have H4 : Hid _ := h4
  clear h4
  go_wp2_with fail
  refine (H.out 4 (by omega) _ H4.out).mono ?_
  rintro r w5 ⟨rfl, h5⟩
  have H5 : Hid _ := h5
  clear h5
  go_wp2_with fail
  refine (H.out 5 (by omega) _ H5.out).mono ?_
  rintro r w6 ⟨rfl, h6⟩
  have H6 : Hid _ := h6
  clear h6
  go_wp2_with fail
  refine (H.out 6 (by omega) _ H6.out).mono ?_
  rintro r w7 ⟨rfl, h7⟩
  have H7 : Hid _ := h7
  clear h7
  go_wp2_with fail
  refine (H.out 7 (by omega) _ H7.out).mono ?_
  rintro r w8 ⟨rfl, h8⟩
  have H8 : Hid _ := h8
  clear h8
  go_wp2_with fail
  refine (H.out 8 (by omega) _ H8.out).mono ?_
  rintro r w9 ⟨rfl, h9⟩
  have H9 : Hid _ := h9
  clear h9
  go_wp2_with fail
  refine (H.out 9 (by omega) _ H9.out).mono ?_
  rintro r w10 ⟨rfl, h10⟩
  have H10 : Hid _ := h10
  clear h10
  go_wp2_with fail
  refine (H.out 10 (by omega) _ H10.out).mono ?_
  rintro r w11 ⟨rfl, h11⟩
  have H11 : Hid _ := h11
  clear h11
  go_wp2_with fail
  refine (H.out 11 (by omega) _ H11.out).mono ?_
  rintro r w12 ⟨rfl, h12⟩
  have H12 : Hid _ := h12
  clear h12
  go_wp2_with fail
  refine (H.out 12 (by omega) _ H12.out).mono ?_
  rintro r w13 ⟨rfl, h13⟩
  have H13 : Hid _ := h13
  clear h13
  go_wp2_with fail
  refine (H.out 13 (by omega) _ H13.out).mono ?_
  rintro r w14 ⟨rfl, h14⟩
  have H14 : Hid _ := h14
  clear h14
  go_wp2_with fail
  refine (H.out 14 (by omega) _ H14.out).mono ?_
  rintro r w15 ⟨rfl, h15⟩
  have H15 : Hid _ := h15
  clear h15
  go_wp2_with fail
  refine (H.out 15 (by omega) _ H15.out).mono ?_
  rintro r w16 ⟨rfl, h16⟩
  have H16 : Hid _ := h16
  clear h16
  go_wp2_with fail
  refine (H.out 16 (by omega) _ H16.out).mono ?_
  rintro r w17 ⟨rfl, h17⟩
  have H17 : Hid _ := h17
  clear h17
  go_wp2
  go_ret
  exact ⟨rfl, H17.out⟩


end Go.Proofs.YtfaekkbblpfbhaaDoor

namespace Go.Proofs.YtfaekkbblpfbhaaDoor
open Go.RowKit


/-- A bag lies at B: its seventeen lists. -/
def BagIs (w : World) (B : Nat) (f : Nat → Value) : Prop := ∃ cs : Array Value, w.heap[B]? = some (.cells cs 56 (0, 0)) ∧ ∀ k, k < 17 → cs[k]? = some (f k)
def upd (f : Nat → Value) (K : Nat) (v : Value) : Nat → Value := fun k => if k = K then v else f k
theorem BagIs.cell {w : World} {B : Nat} {f : Nat → Value} (h : BagIs w B f) (k : Nat) (hk : k < 17) : w.cell? ⟨B, k, none⟩ = some (f k) := by
  obtain ⟨cs, h1, h2⟩ := h
  rw [cell_of_row w B k cs 56 (0, 0) h1]
  exact h2 k hk
theorem BagIs.fro {w : World} {B : Nat} {f : Nat → Value} (h : BagIs w B f) (k : Nat) : w.frozen? ⟨B, k, none⟩ = false := by
  obtain ⟨cs, h1, _⟩ := h
  exact frozen_of_row w B k cs 56 h1
theorem BagIs.lt {w : World} {B : Nat} {f : Nat → Value} (h : BagIs w B f) : B < w.heap.size := by
  obtain ⟨cs, h1, _⟩ := h
  exact (Array.getElem?_eq_some_iff.1 h1).1
theorem BagIs.keep {w w' : World} {B : Nat} {f : Nat → Value} (h : BagIs w B f) (e : w'.heap[B]? = w.heap[B]?) : BagIs w' B f := by
  obtain ⟨cs, h1, h2⟩ := h
  exact ⟨cs, e.trans h1, h2⟩
theorem BagIs.not {w : World} {B : Nat} {f : Nat → Value} (h : BagIs w B f) {e : TypeId} (he : e ≠ 56) : Not w e (some B) := fun b hb cur hc => by
  obtain ⟨cs, h1, _⟩ := h
  cases hb
  rw [h1] at hc
  simp only [Option.some.injEq, Obj.cells.injEq] at hc
  exact he hc.2.1.symm
theorem grown_set (w : World) (B k : Nat) (v : Value) : w.grownBy (w.setCell ⟨B, k, none⟩ v) (some B) :=
  ⟨rfl, rfl, rfl, by simp, fun b _ hb => heap_setCell_other w ⟨B, k, none⟩ b v (fun e => hb (by simp [e]))⟩
theorem BagIs.set {w : World} {B : Nat} {f : Nat → Value} (h : BagIs w B f) (K : Nat) (hK : K < 17) (v : Value) : BagIs (w.setCell ⟨B, K, none⟩ v) B (upd f K v) := by
  obtain ⟨cs, h1, h2⟩ := h
  refine ⟨cs.setIfInBounds K v, heap_setCell_same w B K cs 56 v h1, fun k hk => ?_⟩
  unfold upd
  rw [Array.getElem?_setIfInBounds]
  by_cases e : k = K
  · subst e
    have hlt : k < cs.size := (Array.getElem?_eq_some_iff.1 (h2 k hk)).1
    simp [hlt]
  · rw [if_neg (fun e2 => e e2.symm), if_neg e]
    exact h2 k hk
theorem BagIs.off {w : World} {B : Nat} {f : Nat → Value} (h : BagIs w B f) {base : Nat} {e : TypeId} {size : Nat} {v : Value} {n : Nat} {xs : List Value} (hv : w.ownsRow base e size v n xs) (he : e ≠ 56) : v.ownBlock ≠ some B := fun hb => by
  obtain ⟨cur, hc⟩ := own_block hv hb
  exact h.not he B rfl cur hc
/-- A list was put into a bag. -/
def Added (n B K : Nat) (TS : TypeId) (f : Nat → Value) (l : List Value) (v : Value) (w : World) (r : Ending) (w' : World) : Prop :=
  r = .returned (.tuple #[]) ∧ ∃ V, BagIs w' B (upd f K V) ∧ w'.ownsRow n TS 1 V (l.length + 1) (l ++ [v]) ∧ Below n w w' ∧ ∀ b, b < w.heap.size → b ≠ B → (f K).ownBlock ≠ some b → w'.heap[b]? = w.heap[b]?
theorem added {n B K : Nat} {TS : TypeId} {f : Nat → Value} {l : List Value} {v V : Value} {w w1 : World} (hTS : TS ≠ 56) (hK : K < 17) (hn : n ≤ B) (hb : BagIs w B f) (ho : w.ownsRow n TS 1 (f K) l.length l) (o : Obj) (ho1 : w1.ownsRow n TS 1 V (l.length + 1) (l ++ [v])) (hg : (w.alloc o).grownBy w1 (f K).ownBlock) : Added n B K TS f l v w (.returned (.tuple #[])) (w1.setCell ⟨B, K, none⟩ V) := by
  have hlt := hb.lt
  have hB1 : w1.heap[B]? = w.heap[B]? := by
    rw [hg.block B (by simp; omega) (fun e => hb.off ho hTS e.symm), Below.heap_alloc w o B hlt]
  have hb1 := hb.keep hB1
  refine ⟨rfl, V, hb1.set K hK V, own_other ho1 (grown_set _ _ _ _) (hb1.not hTS), ?_, fun b h1 h2 h3 => ?_⟩
  · refine Below.setCell ?_ hn _
    refine Below.grown ((Below.refl n w).alloc (by omega) o) hg (by simp; omega) (fun k hk => ?_)
    exact (ho.lt k hk).1
  · rw [heap_setCell_other _ _ _ _ (fun e => h2 e), hg.block b (by simp; omega) (fun e => h3 e.symm), Below.heap_alloc w o b h1]

set_option maxRecDepth 100000 in
set_option maxHeartbeats 1000000 in
theorem addbytes_any (n B : Nat) (f : Nat → Value) (l : List Value) (A : Option Addr) (m c : Nat) (w : World) (hn : n ≤ B) (hb : BagIs w B f) (ho : w.ownsRow n 32 1 (f 0) l.length l) (hl : l.length < 300) :
    Calls Tryd.prog 16 #[.pointer (some ⟨B, 0, none⟩), .slice A m c] w (Added n B 0 32 f l (.slice A m c) w) := by
  obtain ⟨i1, hy, hy0, hy1, hy2⟩ := info31
  have h0 := hb.cell 0 (by omega)
  obtain ⟨A0, c0, e0, -⟩ := own_any ho
  have HE : Hid (f 0 = .slice A0 l.length c0) := e0
  have hx := fun v w1 (h1 : w1.ownsRow n 32 1 v (l.length + 1) (l ++ [.slice A m c])) (h2 : (w.alloc (.cells #[.slice A m c] 32)).grownBy w1 (f 0).ownBlock) => added (V := v) (by decide) (by omega) hn hb ho (.cells #[.slice A m c] 32) h1 h2
  have HX : Hid _ := hx
  have ho1 := ho.alloc (.cells #[.slice A m c] 32)
  have HF : Hid (BagIs w B f) := hb
  have hlt := hb.lt
  have hlo := fun k (hk : (f 0).ownBlock = some k) => (ho.lt k hk).2
  have hne := hb.off ho (by decide)
  rw [e0] at h0 ho1
  have HL : Hid _ := hlt
  have HL2 : Hid _ := hne
  clear e0 hb ho hx hlt hlo hne
  go_enter Tryd.func16, Tryd.ntmps16
  go_wp2_with (at_builtin; go_loud (refine wpList_append_own _ rfl (.tmp 14) (.tmp 16) 38 rfl n 32 i1 (.slice none 0 0) 1 24 Tryd.underlying38 hy hy0 hy1 hy2 rfl (by decide) _ l.length l rfl ho1 ⟨w.heap.size, 0, none⟩ 1 1 [.slice A m c] rfl rfl (fun j u hu => World.news_of_block (heap_alloc_new _ _) j u hu) (fun u hu => by cases hu with | head => rfl | tail _ h => cases h) (by unfold maxLen; omega) (by omega) (by have := HL.out; simp; omega) ?_; intro v1 w1 hown hgrow _; rw [← HE.out] at hgrow; have HP : Hid _ := HX.out v1 w1 hown hgrow; have hB1 := HF.out.keep (show w1.heap[B]? = w.heap[B]? by rw [hgrow.block B (by have := HL.out; simp; omega) (fun e => HL2.out e.symm), Below.heap_alloc w _ B HL.out]); have hfr := hB1.fro 0; have hce := hB1.cell 0 (by omega); obtain ⟨Av, cv, ev, -⟩ := own_any hown; subst ev; clear hown hgrow hB1 ho1 HX))
  go_end0
  exact ⟨rfl, HP.out.2⟩


end Go.Proofs.YtfaekkbblpfbhaaDoor
