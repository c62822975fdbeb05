/-
  gather of beginnings. A list of numbers copied into memory of its own, with marks behind it, by the document's helpers; it is at most 2^20 long. A list of numbers copied by append, by the document's helpers: a list of its own; it is at most 2^20 long. A list of symbols, of relocations copied by append, by the document's helpers: a list of its own; it is at most 2^20 long. An object copied by the document's helper: each list is its own; the lists are at most 2^20 long.
-/
import Derived.Test.YtlblplfmemoblaaProg
import Derived.WalkKit
import Derived.WalkSpells
import Derived.WalkLawsBesides
import Derived.RowKit3
import Derived.Below
import Derived.Deep.QuietTactic
import Derived.BigQuiet
import Derived.WalkSmall
import Derived.Laws.Rows
import Derived.Test.YtlblplfmemoblaaPc11
import Derived.Test.YtlblplfmemoblaaPc12
import Derived.Laws.MakeOwn
import Derived.Test.YtlblplfmemoblaaPc01
import Derived.Laws.AppendOwn
import Derived.Laws.OwnMore
import Derived.Deep.Slices
import Derived.Lib.BufferOwn
namespace Go.Proofs.Ytlblplfmemoblaa
open Go.RowKit

set_option maxRecDepth 100000 in
set_option maxHeartbeats 4000000 in
theorem gather_beg (A1 A2 : Option Addr) (c1 ml c2 : Nat) (ent : Int) (text : List Int) (w : World) (hT : IntsAt w A1 .u32 text) (hR : ∀ i, i < text.length → 0 ≤ nth text i ∧ nth text i < 4294967296) (hl : text.length ≤ 1048576) (hm : ml ≤ 1048576) :
    Calls Try.prog 26 #[.agg #[.slice A1 text.length c1, .int .i64 ent, .slice A2 ml c2], .func (.func 30) #[] #[]] w (GatP (checkI text ml ent).1 (outL text ml ent (begF text ent)) w) := by
  have hmm := mkM
  obtain ⟨iI, hi, hz0, hz1, hz2⟩ := infoI
  obtain ⟨W, HW⟩ : ∃ W, Hid (w.alloc (.cells #[.slice A1 text.length c1, .int .i64 ent, .slice A2 ml c2] 25) = W) := ⟨_, rfl⟩
  have HB : Hid (Below w.heap.size w W) := by unfold Hid; rw [← HW.out]; exact lb_alloc (Below.refl _ _) _
  have i0 : W.cell? ⟨w.heap.size, 0, none⟩ = some (.slice A1 text.length c1) := by rw [← HW.out]; simp [go_sem]
  have i1 : W.cell? ⟨w.heap.size, 1, none⟩ = some (.int .i64 ent) := by rw [← HW.out]; simp [go_sem]
  have i2 : W.cell? ⟨w.heap.size, 2, none⟩ = some (.slice A2 ml c2) := by rw [← HW.out]; simp [go_sem]
  have HT : Hid (IntsAt w A1 .u32 text) := hT
  have HR : Hid (∀ i, i < text.length → 0 ≤ nth text i ∧ nth text i < 4294967296) := hR
  have C := check_any A1 A2 c1 ml c2 ent text W (hT.keep HB.out) hR hl hm
  clear hT hR
  by_cases hE : (checkI text ml ent).1 = 0
  · have HE : Hid ((checkI text ml ent).1 = 0) := hE
    have HM : Hid (MayI text ml ent) := check_mayI hE
    rw [check_pair hE] at C
    have hent0 := HM.out.past.ent0
    have hent1 := HM.out.past.ent1
    have HO : Hid (outL text ml ent (begF text ent) = plcT (begF text ent) text.length) := outL_ok hE
    clear hE
    have C : Calls Try.prog 37 #[.agg #[.slice A1 text.length c1, .int .i64 ent, .slice A2 ml c2]] W (ChkP 0 0 W) := C
    go_enter Try.func26, Try.ntmps26
    go_upto_region 1 with fail
    rw [HW.out]
    clear HW
    go_wp2_with fail
    refine C.mono ?_
    rintro e w1 ⟨rfl, hb1⟩
    have j0 := lkeep hb1 i0
    have j1 := lkeep hb1 i1
    have j2 := lkeep hb1 i2
    have HB1 : Hid (Below w.heap.size w w1) := lb_trans HB.out hb1
    clear i0 i1 i2 hb1 C
    obtain ⟨W2, HW2⟩ : ∃ W2, Hid (w1.alloc (.map #[] 0) = W2) := ⟨_, rfl⟩
    have HB2 : Hid (Below w1.heap.size w1 W2) := by unfold Hid; rw [← HW2.out]; exact lb_alloc (Below.refl _ _) _
    have HK2 : Hid (Mks W2 w1.heap.size 0 noF) := by unfold Hid; rw [← HW2.out]; exact Mks.made w1
    have k0 := lkeep HB2.out j0
    have k1 := lkeep HB2.out j1
    have k2 := lkeep HB2.out j2
    have HB02 : Hid (Below w.heap.size w W2) := lb_trans HB1.out HB2.out
    have hz : w.heap.size ≤ w1.heap.size := HB1.out.size
    clear j0 j1 j2
    go_upto_region 5 with fail
    rw [HW2.out]
    clear HW2
    go_wp2_with fail
    refine (markbegins_any A1 A2 c1 ml c2 ent text w1.heap.size 0 noF W2 (HT.out.keep HB02.out) HR.out hl hent0 (by omega) HK2.out (by omega)).mono ?_
    rintro e w3 ⟨rfl, hk3, hg3⟩
    have l0 := HK2.out.cell hg3 k0
    have HK3 : Hid (Mks w3 w1.heap.size (0 + 2 + text.length + text.length) (begF text ent)) := hk3
    have HB3 : Hid (Below w.heap.size w w3) := HB02.out.grown hg3 HB02.out.size (fun j hj => by cases hj; exact hz)
    clear k0 k1 k2 hk3 hg3
    go_wp2
    go_loopw [9, 29] (fun v i wr => ∃ (k : Nat) (O : Option Addr) (c : Nat), i = .int .i64 k ∧ v = .slice O (plcT (begF text ent) k).length c ∧ k ≤ text.length ∧ Hid (wr.ownsRow w.heap.size 3 1 v (plcT (begF text ent) k).length (iVals .i64 (plcT (begF text ent) k))) ∧ Hid (Mks wr w1.heap.size (0 + 2 + text.length + text.length) (begF text ent)) ∧ Hid (Below w.heap.size w wr)) (fun _ i _ => text.length - (intOf i).toNat)
    case atStart => exact ⟨0, none, 0, rfl, rfl, Nat.zero_le _, World.ownsRow_nil _ _ _ _, HK3, HB3⟩
    case round =>
      clear HK3 HB3 l0
      obtain ⟨k, O, c, rfl, rfl, hk, HRw, HK, HBr⟩ := hrel
      have hpl := plcT_len (begF text ent) k
      by_cases hlt : k < text.length
      · have hlk := HK.out.look (x := (k : Int)) (by omega) (by omega)
        have HZ : Hid (wr.heap.size ≤ (wr.alloc (.cells #[] 72)).heap.size) := by unfold Hid; simp
        cases ht : (begF text ent) (k : Int) with
        | false =>
          have HP : Hid (plcT (begF text ent) (k + 1) = plcT (begF text ent) k) := plcT_no ht
          rw [ht] at hlk
          clear ht
          go_wp2
          go_roundw
          case rel => exact ⟨k + 1, O, c, by go_num, by rw [HP.out], by omega, by rw [HP.out]; exact row_keep HRw.out (lb_alloc (Below.refl _ _) _), HK.out.keep (lb_alloc (Below.refl _ _) _), lb_alloc HBr.out _⟩
          case measure => simp [intOf]; omega
        | true =>
          have HP : Hid (plcT (begF text ent) (k + 1) = plcT (begF text ent) k ++ [(k : Int)]) := plcT_yes ht
          rw [ht] at hlk
          clear ht
          have HBa : Hid (Below w.heap.size w ((wr.alloc (.cells #[] 72)).alloc (.cells #[.int .i64 (k : Int)] 3))) := lb_alloc (lb_alloc HBr.out _) _
          have HBx : Hid (Below wr.heap.size wr ((wr.alloc (.cells #[] 72)).alloc (.cells #[.int .i64 (k : Int)] 3))) := lb_alloc (lb_alloc (Below.refl _ _) _) _
          have HRa : Hid (((wr.alloc (.cells #[] 72)).alloc (.cells #[.int .i64 (k : Int)] 3)).ownsRow w.heap.size 3 1 (.slice O (plcT (begF text ent) k).length c) (plcT (begF text ent) k).length (iVals .i64 (plcT (begF text ent) k))) := row_keep HRw.out HBx.out
          have HKa : Hid (Mks ((wr.alloc (.cells #[] 72)).alloc (.cells #[.int .i64 (k : Int)] 3)) w1.heap.size (0 + 2 + text.length + text.length) (begF text ent)) := HK.out.keep HBx.out
          generalize plcT (begF text ent) k = P at *
          go_upto_region 13 with (at_builtin; go_loud (refine wpList_append_own _ rfl (.tmp 39) (.tmp 41) 32 rfl w.heap.size 3 iI (.int .i64 0) 1 8 Try.underlying32 hi hz0 hz1 hz2 rfl (by decide) (.slice O P.length c) P.length (iVals .i64 P) rfl HRa.out ⟨wr.heap.size + 1, 0, none⟩ 1 1 [.int .i64 (k : Int)] rfl rfl (fun j u hu => World.news_of_block (newAtK (by simp)) j u hu) one_oneI (by unfold maxLen; omega) (by omega) HBa.out.size ?_; intro v3 w4 hown hgrow _; have HR3 : Hid (w4.ownsRow w.heap.size 3 1 v3 (plcT (begF text ent) (k + 1)).length (iVals .i64 (plcT (begF text ent) (k + 1)))) := (by rw [Hid, HP.out, iVals_snoc, List.length_append]; exact hown); have HB3 : Hid (Below w.heap.size w w4) := HBa.out.grown hgrow HBa.out.size (fun b hb => (HRa.out.lt b hb).1); have HK4 : Hid (Mks w4 w1.heap.size (0 + 2 + text.length + text.length) (begF text ent)) := HKa.out.kept hgrow (HKa.out.notrow HRa.out); clear hown hgrow))
          obtain ⟨A5, c5, e5⟩ := own_sl HR3.out
          subst e5
          go_wp2
          go_roundw
          case rel => exact ⟨k + 1, A5, c5, by go_num, rfl, by omega, HR3, HK4, HB3⟩
          case measure => simp [intOf]; omega
      · obtain rfl : k = text.length := by omega
        go_wp2
        go_ret2
        refine ⟨O, c, ?_, ?_, HBr.out⟩
        · rw [HO.out, HE.out]; rfl
        · rw [HO.out]; exact HRw.out
  · have HX : Hid (∀ w', Below w.heap.size w w' → GatP (checkI text ml ent).1 (outL text ml ent (begF text ent)) w (.returned (.tuple #[.slice none 0 0, .int .i64 (checkI text ml ent).1])) w') := fun w' hb => gat_no hE hb
    have hne : ((checkI text ml ent).1 == 0) = false := by simpa using hE
    have hne2 : ((checkI text ml ent).1 != 0) = true := by simpa using hE
    clear hE
    generalize (checkI text ml ent).1 = E at *
    generalize (checkI text ml ent).2 = E2 at *
    go_enter Try.func26, Try.ntmps26
    go_upto_region 1 with fail
    rw [HW.out]
    clear HW
    go_wp2_with fail
    refine C.mono ?_
    rintro e w1 ⟨rfl, hb1⟩
    go_wp2
    go_ret2
    exact HX.out _ (lb_trans HB.out hb1)

end Go.Proofs.Ytlblplfmemoblaa

namespace Go.Proofs.Ytlblplfmemoblaa
open Go.RowKit

theorem made_wcur (f : Nat → Value) (z : Value) (N : Nat) : madeCells #[z] N = wcur f (fun _ => z) N 0 := by
  apply Array.ext_getElem?
  intro i
  by_cases hi : i < N
  · rw [wcur_get _ _ _ _ _ hi]; simp [madeCells, hi, Nat.mod_one]
  · rw [Array.getElem?_eq_none (by simp [madeCells]; omega), Array.getElem?_eq_none (by simp [wcur_size]; omega)]
theorem info45 : ∃ i, Try.prog.info? 48 = some i ∧ i.zero = some (.int .u32 0) ∧ i.size = 1 ∧ i.bytes = 4 :=
  ⟨(Try.prog.info? 48).get (by kernel_rfl), by kernel_rfl, by kernel_rfl, by kernel_rfl, by kernel_rfl⟩
theorem make22 (f : Nat → Value) (n : Nat) (hn : n ≤ 1048576) (w : World) : (Instr.makeSlice 22 (.int .i64 ((n : Int) + 64)) (.int .i64 ((n : Int) + 64))).run Try.prog w = .ok (.slice (some ⟨w.heap.size, 0, none⟩) (n + 64) (n + 64)) (w.alloc (.cells (wcur f (fun _ => .int .u32 0) (n + 64) 0) 48)) := by
  obtain ⟨i, hi, hz, hs, hb⟩ := info45
  have h := run_makeSlice (P := Try.prog) w 22 48 i _ Try.underlying22 hi hz .i64 .i64 ((n : Int) + 64) ((n : Int) + 64) (by omega) (by omega) (by rw [hs]; omega) (by rw [hb]; omega) (by omega)
  rw [hs, Nat.mul_one, show ((n : Int) + 64).toNat = n + 64 by omega] at h
  rw [h, ← made_wcur f (.int .u32 0) (n + 64)]
  rfl
theorem info2 : ∃ i, Try.prog.info? 2 = some i ∧ i.zero = some (.int .i64 0) ∧ i.size = 1 ∧ i.bytes = 8 :=
  ⟨(Try.prog.info? 2).get (by kernel_rfl), by kernel_rfl, by kernel_rfl, by kernel_rfl, by kernel_rfl⟩
theorem make23 (f : Nat → Value) (n : Nat) (hn : n ≤ 1048576) (w : World) : (Instr.makeSlice 23 (.int .i64 ((n : Int) + 64)) (.int .i64 ((n : Int) + 64))).run Try.prog w = .ok (.slice (some ⟨w.heap.size, 0, none⟩) (n + 64) (n + 64)) (w.alloc (.cells (wcur f (fun _ => .int .i64 0) (n + 64) 0) 2)) := by
  obtain ⟨i, hi, hz, hs, hb⟩ := info2
  have h := run_makeSlice (P := Try.prog) w 23 2 i _ Try.underlying23 hi hz .i64 .i64 ((n : Int) + 64) ((n : Int) + 64) (by omega) (by omega) (by rw [hs]; omega) (by rw [hb]; omega) (by omega)
  rw [hs, Nat.mul_one, show ((n : Int) + 64).toNat = n + 64 by omega] at h
  rw [h, ← made_wcur f (.int .i64 0) (n + 64)]
  rfl

end Go.Proofs.Ytlblplfmemoblaa

namespace Go.Proofs.Ytlblplfmemoblaa
open Go.RowKit

/-- How a copy ends: a list of its own. -/
def CopyP (el sz n : Nat) (news : List Value) (w : World) (e : Ending) (w' : World) : Prop := ∃ (O : Option Addr) (cap : Nat), e = .returned (.slice O n cap) ∧ w'.ownsRow w.heap.size el sz (.slice O n cap) n news ∧ w.grownBy w' none ∧ (O = none → cap = 0)
theorem copyP_mk {el sz n : Nat} {news : List Value} {w w' : World} {v : Value} {e : Ending} (he : e = .returned v) (h : w'.ownsRow w.heap.size el sz v n news) (hg : w.grownBy w' none) : CopyP el sz n news w e w' := by
  subst he
  rcases h.2 with ⟨rfl, rfl⟩ | ⟨g, cap, cur, rfl, _⟩
  · exact ⟨none, 0, rfl, h, hg, fun _ => rfl⟩
  · exact ⟨some ⟨g, 0, none⟩, cap, rfl, h, hg, fun e => by cases e⟩
def iNews (K : IntKind) (zs : List Int) : List Value := (List.range zs.length).map (wInt K zs)
theorem iNews_cell {w : World} {a : Addr} {K : IntKind} {zs : List Int} (hA : IntsAt w (some a) K zs) (j : Nat) (u : Value) (h : (iNews K zs)[j]? = some u) : w.cell? (a.add j) = some u := by
  have hj : j < zs.length := by
    have := (List.getElem?_eq_some_iff.1 h).1; simpa [iNews] using this
  obtain ⟨b, e, c⟩ := hA j hj
  obtain rfl := Option.some.inj e
  rw [c, ← h]
  simp [iNews, hj, wInt]
theorem iNews_one (K : IntKind) (zs : List Int) : ∀ u ∈ iNews K zs, u.oneCell' = true := by
  intro u hu
  obtain ⟨i, _, rfl⟩ := List.mem_map.1 hu
  unfold wInt; split <;> rfl
theorem copywords_any (O : Option Addr) (ca : Nat) (zs : List Int) (w : World) (hA : IntsAt w O .u32 zs) (h0 : O = none → ca = 0) (hz : zs.length ≤ 1048576) :
    Calls Try.prog 22 #[.slice O zs.length ca] w fun e w' => CopyP 48 1 zs.length (iNews .u32 zs) w e w' := by
  obtain ⟨i0, hi, hz0, hz1, hz2⟩ := info45
  cases O with
  | none =>
    obtain rfl := h0 rfl
    have hl : zs.length = 0 := by
      cases zs with
      | nil => rfl
      | cons x t => obtain ⟨a, e, _⟩ := hA 0 (by simp); cases e
    have hn : iNews .u32 zs = [] := by unfold iNews; rw [hl]; rfl
    rw [hl, hn]
    have hr := run_append_owned_none (P := Try.prog) (w := w) w.heap.size 22 22 48 i0 1 Try.underlying22 hi (.slice none 0 0) 0 [] (World.ownsRow_nil w _ _ _)
    go_enter Try.func22, Try.ntmps22
    go_wp2
    go_ret
    exact copyP_mk rfl (World.ownsRow_nil w _ _ _) (World.grownBy.refl w _)
  | some a =>
    go_enter Try.func22, Try.ntmps22
    go_wp2_with (at_builtin; refine wpList_append_own _ rfl (.tmp 4) (.tmp 5) 22 rfl w.heap.size 48 i0 (.int .u32 0) 1 4 Try.underlying22 hi hz0 hz1 hz2 rfl (by decide) (.slice none 0 0) 0 [] rfl (World.ownsRow_nil w _ _ _) a zs.length ca (iNews .u32 zs) rfl (by simp [iNews]) (iNews_cell hA) (iNews_one _ _) (by unfold maxLen; omega) (by omega) (Nat.le_refl _) ?_; intro v' w' hown hgrow hnil)
    go_ret
    exact copyP_mk rfl (by simpa using hown) hgrow
theorem copylongs_any (O : Option Addr) (ca : Nat) (zs : List Int) (w : World) (hA : IntsAt w O .i64 zs) (h0 : O = none → ca = 0) (hz : zs.length ≤ 1048576) :
    Calls Try.prog 23 #[.slice O zs.length ca] w fun e w' => CopyP 2 1 zs.length (iNews .i64 zs) w e w' := by
  obtain ⟨i0, hi, hz0, hz1, hz2⟩ := info2
  cases O with
  | none =>
    obtain rfl := h0 rfl
    have hl : zs.length = 0 := by
      cases zs with
      | nil => rfl
      | cons x t => obtain ⟨a, e, _⟩ := hA 0 (by simp); cases e
    have hn : iNews .i64 zs = [] := by unfold iNews; rw [hl]; rfl
    rw [hl, hn]
    have hr := run_append_owned_none (P := Try.prog) (w := w) w.heap.size 23 23 2 i0 1 Try.underlying23 hi (.slice none 0 0) 0 [] (World.ownsRow_nil w _ _ _)
    go_enter Try.func23, Try.ntmps23
    go_wp2
    go_ret
    exact copyP_mk rfl (World.ownsRow_nil w _ _ _) (World.grownBy.refl w _)
  | some a =>
    go_enter Try.func23, Try.ntmps23
    go_wp2_with (at_builtin; refine wpList_append_own _ rfl (.tmp 4) (.tmp 5) 23 rfl w.heap.size 2 i0 (.int .i64 0) 1 8 Try.underlying23 hi hz0 hz1 hz2 rfl (by decide) (.slice none 0 0) 0 [] rfl (World.ownsRow_nil w _ _ _) a zs.length ca (iNews .i64 zs) rfl (by simp [iNews]) (iNews_cell hA) (iNews_one _ _) (by unfold maxLen; omega) (by omega) (Nat.le_refl _) ?_; intro v' w' hown hgrow hnil)
    go_ret
    exact copyP_mk rfl (by simpa using hown) hgrow
theorem gcell {w w' : World} (hg : w.grownBy w' none) {p : Addr} {v : Value} (hc : w.cell? p = some v) : w'.cell? p = some v := hg.cell hc (by simp)
theorem gfroz {w w' : World} (hg : w.grownBy w' none) {p : Addr} {v : Value} (hc : w.cell? p = some v) (hf : w.frozen? p = false) : w'.frozen? p = false := by
  rw [World.frozen?_of_block (hg.block p.block (World.block_lt_of_cell? w p hc) (by simp))]; exact hf
theorem scell_ne {w : World} {b i j : Nat} {v u : Value} (hij : ¬ i = j) (h : w.cell? ⟨b, j, none⟩ = some u) : (w.setCell ⟨b, i, none⟩ v).cell? ⟨b, j, none⟩ = some u := by
  rw [← h]; simp [go_sem]
theorem scell_eq {w : World} {b i : Nat} {v u : Value} (h : w.cell? ⟨b, i, none⟩ = some u) : (w.setCell ⟨b, i, none⟩ v).cell? ⟨b, i, none⟩ = some v := by
  simp [go_sem, h]
theorem scell_far {w : World} {b c i j : Nat} {v u : Value} (hbc : ¬ b = c) (h : w.cell? ⟨c, j, none⟩ = some u) : (w.setCell ⟨b, i, none⟩ v).cell? ⟨c, j, none⟩ = some u := by
  rw [← h]; simp [go_sem]
theorem sfroz {w : World} {b i : Nat} {v : Value} {q : Addr} (h : w.frozen? q = false) : (w.setCell ⟨b, i, none⟩ v).frozen? q = false := by
  rw [← h]; simp [go_sem]
theorem keepN {w w' : World} {base e sz : Nat} {v : Value} {n : Nat} {xs : List Value} (h : w.ownsRow base e sz v n xs) (hg : w.grownBy w' none) : w'.ownsRow base e sz v n xs := h.kept hg (by
  by_cases c : v.ownBlock = none
  · exact Or.inl c
  · exact Or.inr c)
theorem keepS {w w' : World} {base e sz b : Nat} {v : Value} {n : Nat} {xs : List Value} (h : w.ownsRow base e sz v n xs) (hg : w.grownBy w' (some b)) (hb : b < base) : w'.ownsRow base e sz v n xs := h.kept hg (Or.inr fun c => by
  have := (h.lt b c).1; omega)
theorem ownMono {w : World} {base base' e sz : Nat} {v : Value} {n : Nat} {xs : List Value} (h : w.ownsRow base e sz v n xs) (hb : base' ≤ base) : w.ownsRow base' e sz v n xs := ⟨h.1, h.2.imp id fun ⟨g, cap, cur, a, b, c⟩ => ⟨g, cap, cur, a, Nat.le_trans hb b, c⟩⟩
theorem gset (w : World) (b i : Nat) (v : Value) : w.grownBy (w.setCell ⟨b, i, none⟩ v) (some b) := Lib.grownBy_setB (World.grownBy.refl w _) i v
theorem below_grow {w w1 w2 : World} (h : Below w.heap.size w w1) (hg : w1.grownBy w2 none) : Below w.heap.size w w2 := h.grown hg h.size (fun k e => by cases e)

end Go.Proofs.Ytlblplfmemoblaa
