/-
  One more list in a bag: words, numbers, symbols, relocations. Numbers as marks.
-/
import Derived.Test.YtfaekkbblpfbhaaDoorProg
import Derived.WalkKit
import Derived.WalkSpells
import Derived.WalkLawsBesides
import Derived.RowKit3
import Derived.Below
import Derived.Deep.QuietTactic
import Derived.BigQuiet
import Derived.WalkSmall
import Derived.Laws.Rows
import Derived.Test.YtfaekkbblpfbhaaDoorIr26
import Derived.Test.YtfaekkbblpfbhaaDoorIr24
import Derived.Test.YtfaekkbblpfbhaaDoorIr36
namespace Go.Proofs.YtfaekkbblpfbhaaDoor
open Go.RowKit


theorem infoO22 : ∃ i, Tryd.prog.info? 22 = some i ∧ i.zero = some (.slice none 0 0) ∧ i.size = 1 ∧ i.bytes = 24 :=
  ⟨(Tryd.prog.info? 22).get (by kernel_rfl), by kernel_rfl, by kernel_rfl, by kernel_rfl, by kernel_rfl⟩
set_option maxRecDepth 100000 in
set_option maxHeartbeats 1000000 in
theorem addwords_any (n B : Nat) (f : Nat → Value) (l : List Value) (A : Option Addr) (m c : Nat) (w : World) (hn : n ≤ B) (hb : BagIs w B f) (ho : w.ownsRow n 22 1 (f 5) l.length l) (hl : l.length < 300) :
    Calls Tryd.prog 65 #[.pointer (some ⟨B, 0, none⟩), .slice A m c] w (Added n B 5 22 f l (.slice A m c) w) := by
  obtain ⟨i1, hy, hy0, hy1, hy2⟩ := infoO22
  have h0 := hb.cell 5 (by omega)
  obtain ⟨A0, c0, e0, -⟩ := own_any ho
  have HE : Hid (f 5 = .slice A0 l.length c0) := e0
  have hx := fun v w1 (h1 : w1.ownsRow n 22 1 v (l.length + 1) (l ++ [.slice A m c])) (h2 : (w.alloc (.cells #[.slice A m c] 22)).grownBy w1 (f 5).ownBlock) => added (V := v) (by decide) (by omega) hn hb ho (.cells #[.slice A m c] 22) h1 h2
  have HX : Hid _ := hx
  have ho1 := ho.alloc (.cells #[.slice A m c] 22)
  have HF : Hid (BagIs w B f) := hb
  have hlt := hb.lt
  have hlo := fun k (hk : (f 5).ownBlock = some k) => (ho.lt k hk).2
  have hne := hb.off ho (by decide)
  rw [e0] at h0 ho1
  have HL : Hid _ := hlt
  have HL2 : Hid _ := hne
  clear e0 hb ho hx hlt hlo hne
  go_enter Tryd.func65, Tryd.ntmps65
  go_wp2_with (at_builtin; go_loud (refine wpList_append_own _ rfl (.tmp 14) (.tmp 16) 43 rfl n 22 i1 (.slice none 0 0) 1 24 Tryd.underlying43 hy hy0 hy1 hy2 rfl (by decide) _ l.length l rfl ho1 ⟨w.heap.size, 0, none⟩ 1 1 [.slice A m c] rfl rfl (fun j u hu => World.news_of_block (heap_alloc_new _ _) j u hu) (fun u hu => by cases hu with | head => rfl | tail _ h => cases h) (by unfold maxLen; omega) (by omega) (by have := HL.out; simp; omega) ?_; intro v1 w1 hown hgrow _; rw [← HE.out] at hgrow; have HP : Hid _ := HX.out v1 w1 hown hgrow; have hB1 := HF.out.keep (show w1.heap[B]? = w.heap[B]? by rw [hgrow.block B (by have := HL.out; simp; omega) (fun e => HL2.out e.symm), Below.heap_alloc w _ B HL.out]); have hfr := hB1.fro 5; have hce := hB1.cell 5 (by omega); obtain ⟨Av, cv, ev, -⟩ := own_any hown; subst ev; clear hown hgrow hB1 ho1 HX))
  go_end0
  exact ⟨rfl, HP.out.2⟩

theorem infoO23 : ∃ i, Tryd.prog.info? 23 = some i ∧ i.zero = some (.slice none 0 0) ∧ i.size = 1 ∧ i.bytes = 24 :=
  ⟨(Tryd.prog.info? 23).get (by kernel_rfl), by kernel_rfl, by kernel_rfl, by kernel_rfl, by kernel_rfl⟩
set_option maxRecDepth 100000 in
set_option maxHeartbeats 1000000 in
theorem addlongs_any (n B : Nat) (f : Nat → Value) (l : List Value) (A : Option Addr) (m c : Nat) (w : World) (hn : n ≤ B) (hb : BagIs w B f) (ho : w.ownsRow n 23 1 (f 4) l.length l) (hl : l.length < 300) :
    Calls Tryd.prog 66 #[.pointer (some ⟨B, 0, none⟩), .slice A m c] w (Added n B 4 23 f l (.slice A m c) w) := by
  obtain ⟨i1, hy, hy0, hy1, hy2⟩ := infoO23
  have h0 := hb.cell 4 (by omega)
  obtain ⟨A0, c0, e0, -⟩ := own_any ho
  have HE : Hid (f 4 = .slice A0 l.length c0) := e0
  have hx := fun v w1 (h1 : w1.ownsRow n 23 1 v (l.length + 1) (l ++ [.slice A m c])) (h2 : (w.alloc (.cells #[.slice A m c] 23)).grownBy w1 (f 4).ownBlock) => added (V := v) (by decide) (by omega) hn hb ho (.cells #[.slice A m c] 23) h1 h2
  have HX : Hid _ := hx
  have ho1 := ho.alloc (.cells #[.slice A m c] 23)
  have HF : Hid (BagIs w B f) := hb
  have hlt := hb.lt
  have hlo := fun k (hk : (f 4).ownBlock = some k) => (ho.lt k hk).2
  have hne := hb.off ho (by decide)
  rw [e0] at h0 ho1
  have HL : Hid _ := hlt
  have HL2 : Hid _ := hne
  clear e0 hb ho hx hlt hlo hne
  go_enter Tryd.func66, Tryd.ntmps66
  go_wp2_with (at_builtin; go_loud (refine wpList_append_own _ rfl (.tmp 14) (.tmp 16) 42 rfl n 23 i1 (.slice none 0 0) 1 24 Tryd.underlying42 hy hy0 hy1 hy2 rfl (by decide) _ l.length l rfl ho1 ⟨w.heap.size, 0, none⟩ 1 1 [.slice A m c] rfl rfl (fun j u hu => World.news_of_block (heap_alloc_new _ _) j u hu) (fun u hu => by cases hu with | head => rfl | tail _ h => cases h) (by unfold maxLen; omega) (by omega) (by have := HL.out; simp; omega) ?_; intro v1 w1 hown hgrow _; rw [← HE.out] at hgrow; have HP : Hid _ := HX.out v1 w1 hown hgrow; have hB1 := HF.out.keep (show w1.heap[B]? = w.heap[B]? by rw [hgrow.block B (by have := HL.out; simp; omega) (fun e => HL2.out e.symm), Below.heap_alloc w _ B HL.out]); have hfr := hB1.fro 4; have hce := hB1.cell 4 (by omega); obtain ⟨Av, cv, ev, -⟩ := own_any hown; subst ev; clear hown hgrow hB1 ho1 HX))
  go_end0
  exact ⟨rfl, HP.out.2⟩

theorem infoO24 : ∃ i, Tryd.prog.info? 119 = some i ∧ i.zero = some (.slice none 0 0) ∧ i.size = 1 ∧ i.bytes = 24 :=
  ⟨(Tryd.prog.info? 119).get (by kernel_rfl), by kernel_rfl, by kernel_rfl, by kernel_rfl, by kernel_rfl⟩
theorem infoO25 : ∃ i, Tryd.prog.info? 122 = some i ∧ i.zero = some (.slice none 0 0) ∧ i.size = 1 ∧ i.bytes = 24 :=
  ⟨(Tryd.prog.info? 122).get (by kernel_rfl), by kernel_rfl, by kernel_rfl, by kernel_rfl, by kernel_rfl⟩

end Go.Proofs.YtfaekkbblpfbhaaDoor

namespace Go.Proofs.YtfaekkbblpfbhaaDoor
open Go.RowKit


theorem num_wide (n i : Nat) (h0 : 0 ≤ n) (h1 : n ≤ 300) (h2 : 0 ≤ i) (h3 : i ≤ 2097152) (w : World) : Calls Tryd.prog 72 #[.int .i64 n, .int .i64 i] w fun e w' => e = .returned (.int .i64 (1048576 * (n : Int) + (i : Int) + 1)) ∧ w' = w := by
  go_enter Tryd.func72, Tryd.ntmps72
  go_wp2
  go_ret
  exact ⟨rfl, rfl⟩
theorem Wm.drew {T TS : TypeId} {size : Nat} {mk : Nat → Nat → List Value} {rs : List (Value × Nat)} {V : Value} {w0 w : World} {n i : Nat} (h : Wm T TS size mk rs V w0 w n i) : Wm T TS size mk rs V w0 w.drew n i :=
  ⟨h.wr, h.bag, h.fr.os, h.fr.tape, h.fr.output, h.fr.size, h.fr.block⟩
def mkL (n i : Nat) : List Value := [.int .i64 (1048576 * (n : Int) + (i : Int) + 1)]
theorem mkL_len (n i : Nat) : (mkL n i).length = 1 := rfl
def mkW (n i : Nat) : List Value := [.int .u32 (1048576 * (n : Int) + (i : Int) + 1)]
theorem mkW_len (n i : Nat) : (mkW n i).length = 1 := rfl


end Go.Proofs.YtfaekkbblpfbhaaDoor
