/-
  CopyInts of the document: a list of its own. The statement EdgeBacks, walked. An image, or bytes, that came in, opened: the lists, where they lie; no condition.
-/
import Derived.Test.YtgkdagnpefgjcaaProg
import Derived.WalkKit
import Derived.WalkSpells
import Derived.WalkLawsBesides
import Derived.RowKit3
import Derived.Below
import Derived.Deep.QuietTactic
import Derived.BigQuiet
import Derived.WalkSmall
import Derived.Laws.Rows
import Derived.Test.YtgkdagnpefgjcaaPb15
import Derived.Test.YtgkdagnpefgjcaaPb11
import Derived.Test.YtgkdagnpefgjcaaPb16
import Derived.ProofKit
import Derived.OpenShut
import Derived.Stop.Joined
import Derived.Carry
import Derived.Lib.SmallJoins
import Derived.Deep.SlicePairs
import Derived.Deep.Strs
import Derived.SizedLaws
import Derived.Test.YtgkdagnpefgjcaaPb01
namespace Go.Proofs.Ytgkdagnpefgjcaa
open Go.RowKit

theorem copyints_any (O : Option Addr) (ca : Nat) (zs : List Int) (w : World) (hA : IntsAt w O .i64 zs) (h0 : O = none → ca = 0) (hz : zs.length ≤ 1048576) :
    Calls Try.prog 16 #[.slice O zs.length ca] w fun e w' => CopyP 3 1 zs.length (iVals .i64 zs) w e w' := by
  rw [← zNews_vals]
  obtain ⟨i0, hi, hz0, hz1, hz2⟩ := infoI
  cases O with
  | none =>
    obtain rfl := h0 rfl
    have hl : zs.length = 0 := by
      cases zs with
      | nil => rfl
      | cons x t => obtain ⟨a, e, _⟩ := hA 0 (by simp); cases e
    have hn : iNews .i64 zs = [] := by unfold iNews; rw [hl]; rfl
    rw [hl, hn]
    have hr := run_append_owned_none (P := Try.prog) (w := w) w.heap.size 43 43 3 i0 1 Try.underlying43 hi (.slice none 0 0) 0 [] (World.ownsRow_nil w _ _ _)
    go_enter Try.func16, Try.ntmps16
    go_wp2
    go_ret
    exact copyP_mk rfl (World.ownsRow_nil w _ _ _) (World.grownBy.refl w _)
  | some a =>
    go_enter Try.func16, Try.ntmps16
    go_wp2_with (at_builtin; refine wpList_append_own _ rfl (.tmp 4) (.tmp 5) 43 rfl w.heap.size 3 i0 (.int .i64 0) 1 8 Try.underlying43 hi hz0 hz1 hz2 rfl (by decide) (.slice none 0 0) 0 [] rfl (World.ownsRow_nil w _ _ _) a zs.length ca (iNews .i64 zs) rfl (by simp [iNews]) (iNews_cell hA) (iNews_one _ _) (by unfold maxLen; omega) (by omega) (Nat.le_refl _) ?_; intro v' w' hown hgrow hnil)
    go_ret
    exact copyP_mk rfl (by simpa using hown) hgrow


end Go.Proofs.Ytgkdagnpefgjcaa

namespace Go.Proofs.Ytgkdagnpefgjcaa
open Go.RowKit

theorem grown_none {w w1 : World} (hg : w.grownBy w1 none) : Below w.heap.size w w1 := ⟨hg.os, hg.tape, hg.output, hg.size, fun i hi => hg.block i hi (by simp)⟩
theorem take_rowZ {L : List (List Int)} {k : Nat} (h : k < L.length) : L.take (k + 1) = L.take k ++ [rowZ L k] := by
  unfold rowZ
  rw [List.take_add_one, List.getD_eq_getElem?_getD, List.getElem?_eq_getElem h]
  rfl
/-- Lists that came in: one that is nil has no room. -/
def IntsN (w : World) (A : Option Addr) (L : List (List Int)) : Prop := ∀ i, i < L.length → ∃ (a : Addr) (R : Option Addr) (k : Nat), A = some a ∧ w.cell? (a.add i) = some (.slice R (rowZ L i).length k) ∧ IntsAt w R .i64 (rowZ L i) ∧ (R = none → k = 0) ∧ (rowZ L i).length ≤ maxLen
theorem IntsN.ints {w : World} {A : Option Addr} {L : List (List Int)} (h : IntsN w A L) : IntsZ w A L := fun i hi => by
  obtain ⟨a, R, k, e, c, r, _⟩ := h i hi
  exact ⟨a, R, k, e, c, r⟩
set_option maxRecDepth 100000 in
set_option maxHeartbeats 4000000 in
theorem lawBacks (HE : EdgesOK) (HK : BackOK) (A : Option Addr) (ca : Nat) (L : List (List Int)) (w : World) (hA : IntsN w A L) (hl : L.length ≤ maxLen) :
    Calls Try.prog 4 #[.slice A L.length ca] w fun e w' => e = .returned (.bool true) ∧ Below w.heap.size w w' := by
  unfold maxLen at hl
  obtain ⟨iS, hy, hy0, hy1, hy2⟩ := infoS
  have CW := works_any HE
  by_cases hm : 200 < L.length
  · have hm' : (200 : Int) < (L.length : Int) := by omega
    go_enter Try.func4, Try.ntmps4
    go_wp2_with (go_at_call 6; refine (CW _).mono ?_; rintro e w1 ⟨rfl, hb1⟩)
    go_ret
    exact ⟨rfl, hb1⟩
  have hm' : ¬ (200 : Int) < (L.length : Int) := by omega
  have HA : Hid (IntsN w A L) := hA
  clear hA
  go_enter Try.func4, Try.ntmps4
  go_wp2
  go_loopw [3, 4] (fun v i wr => ∃ (k : Nat) (O : Option Addr) (c : Nat) (vs : List Value), i = .int .i64 k ∧ v = .slice O k c ∧ k ≤ L.length ∧ Hid (RowsZ wr w.heap.size v vs (L.take k)) ∧ Hid (∀ i, i < k → (rowZ L i).length ≤ 1000) ∧ Hid (Below w.heap.size w wr)) (fun _ i _ => L.length - (intOf i).toNat)
  case atStart => exact ⟨0, none, 0, [], rfl, rfl, Nat.zero_le _, RowsZ.nil _ _, fun _i hi => absurd hi (Nat.not_lt_zero _), Below.refl _ _⟩
  case round =>
    obtain ⟨k, O, c, vs, rfl, rfl, hk, HZ, HM, HB⟩ := hrel
    by_cases hlt : k < L.length
    · have hlt' : (k : Int) < (L.length : Int) := by omega
      obtain ⟨a, R, kr, ea, q0, r0, hn, hmx⟩ := HA.out k hlt
      subst ea
      have q := lkeep HB.out q0
      unfold maxLen at hmx
      by_cases hlong : 1000 < (rowZ L k).length
      · have hlong' : (1000 : Int) < ((rowZ L k).length : Int) := by omega
        clear r0
        go_wp2_with (go_at_call 6; refine (CW _).mono ?_; rintro e w1 ⟨rfl, hb1⟩)
        go_ret
        exact ⟨rfl, lb_trans HB.out hb1⟩
      · have hlong' : ¬ (1000 : Int) < ((rowZ L k).length : Int) := by omega
        have C := copyints_any R kr (rowZ L k) wr (r0.keep HB.out) hn (by omega)
        have HLk : Hid ((L.take k).length = k) := by rw [Hid, List.length_take]; omega
        have HT1 : Hid (L.take (k + 1) = L.take k ++ [rowZ L k]) := take_rowZ hlt
        have HM2 : Hid (∀ i, i < k + 1 → (rowZ L i).length ≤ 1000) := fun i hi => by
          by_cases e : i = k
          · rw [e]; omega
          · exact HM.out i (by omega)
        clear r0 q0 hn
        go_upto_region 6 with (first
            | (go_at_call 16; refine C.mono ?_; rintro e w5 ⟨O2, c2, rfl, hown5, hg5, _⟩; have HBx : Hid (Below wr.heap.size wr (w5.alloc (.cells #[.slice O2 (rowZ L k).length c2] 43))) := lb_alloc (grown_none hg5) _; have HBa : Hid (Below w.heap.size w (w5.alloc (.cells #[.slice O2 (rowZ L k).length c2] 43))) := lb_trans HB.out HBx.out; have HRa : Hid ((w5.alloc (.cells #[.slice O2 (rowZ L k).length c2] 43)).ownsRow w.heap.size 3 1 (.slice O2 (rowZ L k).length c2) (rowZ L k).length (iVals .i64 (rowZ L k))) := ownsRow_mono (row_keep hown5 (lb_alloc (Below.refl _ _) _)) HB.out.size; have HZa : Hid (RowsZ (w5.alloc (.cells #[.slice O2 (rowZ L k).length c2] 43)) w.heap.size (.slice O k c) vs (L.take k)) := HZ.out.keep HBx.out; have HVs : Hid (vs.length = k) := (by rw [Hid, HZa.out.len, HLk.out]); have HBg : Hid ((w5.alloc (.cells #[.slice O2 (rowZ L k).length c2] 43)).ownsRow w.heap.size 43 1 (.slice O k c) k vs) := (by have := HZa.out.bag; rwa [HLk.out] at this); clear hown5 hg5)
            | (at_builtin; go_loud (refine wpList_append_own _ rfl (.tmp 23) (.tmp 29) 31 rfl w.heap.size 43 iS (.slice none 0 0) 1 24 Try.underlying31 hy hy0 hy1 hy2 rfl (by decide) (.slice O k c) k vs rfl HBg.out ⟨w5.heap.size, 0, none⟩ 1 1 [.slice O2 (rowZ L k).length c2] rfl rfl (fun j u hu => World.news_of_block (newAtK rfl) j u hu) one_slice (by unfold maxLen; omega) (by omega) HBa.out.size ?_; intro v3 w4 hown hgrow _; have HZ4 : Hid (RowsZ w4 w.heap.size v3 (vs ++ [.slice O2 (rowZ L k).length c2]) (L.take k ++ [rowZ L k])) := HZa.out.add HRa.out (by rw [HLk.out]; exact hown) hgrow; have HV4 : Hid (w4.ownsRow w.heap.size 43 1 v3 (k + 1) (vs ++ [.slice O2 (rowZ L k).length c2])) := hown; have HB3 : Hid (Below w.heap.size w w4) := HBa.out.grown hgrow HBa.out.size (fun b hb => (HBg.out.lt b hb).1); clear hown hgrow)))
        obtain ⟨A5, c5, e5⟩ := own_sl HV4.out
        subst e5
        go_wp2
        go_roundw
        case rel => exact ⟨k + 1, A5, c5, _, by go_num, rfl, by omega, by rw [HT1.out]; exact HZ4, HM2, HB3⟩
        case measure => simp [intOf]; omega
    · obtain rfl : k = L.length := by omega
      have HI : Hid (IntsZ wr O L) := by have := HZ.out.ints; rwa [List.take_length] at this
      have HAr : Hid (IntsZ wr A L) := HA.out.ints.keep HB.out
      have HM2 : Hid (∀ i, i < L.length → (rowZ L i).length ≤ 65536) := fun i hi => by have := HM.out i hi; omega
      have HML : Hid (∀ i, i < (backT L L.length).length → (rowZ (backT L L.length) i).length ≤ 65536) := fun i hi => by
        rw [backT_len] at hi
        unfold backT
        rw [rowZ_map hi]
        have := plcT_len (backR L i) L.length
        omega
      have HLb : Hid ((backT L L.length).length = L.length) := backT_len _ _
      have C1 := HK O c L wr HI.out (by omega) HM2.out
      go_wp2_with fail
      refine C1.mono ?_
      rintro e w1 ⟨B1, k1, rfl, hz1, hb1⟩
      have HI1 : Hid (IntsZ w1 O L) := HI.out.keep hb1
      have HA1 : Hid (IntsZ w1 A L) := HAr.out.keep hb1
      have HZ1 : Hid (IntsZ w1 B1 (backT L L.length)) := hz1
      have HB1 : Hid (Below w.heap.size w w1) := lb_trans HB.out hb1
      clear hz1 hb1 HI HAr HB HZ C1
      have C2 := refback_any A ca L w1 HA1.out (by omega) HM2.out
      go_wp2_with fail
      refine C2.mono ?_
      rintro e w2 ⟨B2, k2, vs2, rfl, hz2, hb2⟩
      have HI2 : Hid (IntsZ w2 O L) := HI1.out.keep hb2
      have HA2 : Hid (IntsZ w2 A L) := HA1.out.keep hb2
      have HZ2 : Hid (IntsZ w2 B1 (backT L L.length)) := HZ1.out.keep hb2
      have HY2 : Hid (IntsZ w2 B2 (backT L L.length)) := hz2.ints
      have HB2 : Hid (Below w.heap.size w w2) := lb_trans HB1.out hb2
      clear hz2 hb2 HI1 HA1 HZ1 HB1 C2
      have C3 := eq_same B1 B2 k1 k2 (backT L L.length) w2 HZ2.out HY2.out (by rw [HLb.out]; omega) HML.out
      go_wp2_with fail
      refine C3.mono ?_
      rintro e w3 ⟨rfl, hb3⟩
      have C4 := eq_same O A c ca L w3 (HI2.out.keep hb3) (HA2.out.keep hb3) (by omega) HM2.out
      have HB3 : Hid (Below w.heap.size w w3) := lb_trans HB2.out hb3
      clear HI2 HA2 HZ2 HY2 HB2 hb3 C3
      go_wp2_with (first
        | (go_at_call 13; refine C4.mono ?_; rintro e w4 ⟨rfl, hb4⟩)
        | (go_at_call 6; refine (CW _).mono ?_; rintro e w5 ⟨rfl, hb5⟩))
      go_ret
      exact ⟨rfl, lb_trans HB3.out (lb_trans hb4 hb5)⟩


end Go.Proofs.Ytgkdagnpefgjcaa

namespace Go.Proofs.Ytgkdagnpefgjcaa
open Go.ChangeShapes Go.WideShapes Go.ChangeAt Go.RowKit Go.Joins

theorem open_i {H : Type} {enc : TypeId × Value → H} {W : World} {base : Nat} {sp : Nat → Bool} {held : Bool} {fuel : Nat} {cs : List Value} {x : DataW H × List MemPlace} {t e : TypeId} {k : IntKind} (ht : Try.prog.underlying t = some (.slice e)) (he : Try.prog.underlying e = some (.int k)) (hc : Try.prog.cellsOf e = 1) (h : DataW.trod enc Try.prog W base sp held fuel t cs = some x) :
    ∃ (O : Option Addr) (cap : Nat) (zs : List Int), cs = [.slice O zs.length cap] ∧ IntsAt W O k zs ∧ zs.length ≤ maxLen ∧ (∀ i, i < zs.length → (Lit.int k (nth zs i)).wf = true) ∧ (O = none → cap = 0) := by
  rcases open_ints ht he hc h with ⟨rfl, _⟩ | ⟨a, len, cap, zs, rfl, _, hl, hm, hz, _, hcell, hwf⟩
  · exact ⟨none, 0, [], rfl, fun i hi => by simp at hi, by simp, fun i hi => by simp at hi, fun _ => rfl⟩
  · have hlen : len ≤ zs.length := by rw [hz]; split <;> omega
    have hn : ∀ i, i < len → nth (zs.take len) i = zs.getD i 0 := fun i hi => by simp [nth, List.getD, hi]
    have hl2 : (zs.take len).length = len := by rw [List.length_take, Nat.min_eq_left hlen]
    refine ⟨some a, cap, zs.take len, by rw [hl2], ?_, by omega, ?_, fun h => by cases h⟩
    · intro i hi
      rw [hl2] at hi
      exact ⟨a, rfl, by rw [hn i hi]; exact hcell i (by omega)⟩
    · intro i hi
      rw [hl2] at hi
      rw [hn i hi]
      refine hwf _ ?_
      simp [List.getD, show i < zs.length by omega]
theorem three {cs : Array Value} (h : cs.size = 3) : ∃ a b c, cs = #[a, b, c] := by
  obtain ⟨l⟩ := cs
  match l, h with
  | [a, b, c], _ => exact ⟨a, b, c, rfl⟩
set_option maxRecDepth 100000 in
theorem openImg {H : Type} {enc : TypeId × Value → H} {W : World} {b0 base : Nat} {spare : Nat → Bool} {held : Bool} {v : Value} {d : DataW H} {p : List MemPlace}
    (hv : Value.okWide Try.prog W .any b0 25 v) (h : DataW.Trod enc Try.prog W base spare held 25 v d p) :
    ∃ (ent : Int) (A1 A2 : Option Addr) (c1 c2 : Nat) (text mem : List Int), v = .agg #[.slice A1 text.length c1, .int .i64 ent, .slice A2 mem.length c2] ∧
      IntsAt W A1 .u32 text ∧ IntsAt W A2 .i64 mem ∧ (∀ i, i < text.length → 0 ≤ nth text i ∧ nth text i < 4294967296) ∧ (∀ i, i < mem.length → -9223372036854775808 ≤ nth mem i ∧ nth mem i < 9223372036854775808) ∧ (A1 = none → c1 = 0) ∧ (A2 = none → c2 = 0) := by
  obtain ⟨cs, rfl, hsz⟩ := okWide_struct Try.underlying25 hv
  obtain ⟨v0, v1, v2, rfl⟩ := three (hsz.trans (by kernel_rfl))
  obtain ⟨fuel, hf⟩ := h
  obtain ⟨xs, n, _, hdd, _, hlen, hf⟩ := DataW.trod_struct Try.underlying25 hf
  match xs, hlen with
  | [y0, y1, y2], _ =>
    have h0 := hf 0 _ rfl
    have h1 := hf 1 _ rfl
    have h2 := hf 2 _ rfl
    simp [Value.cells, show Try.prog.cellsOf 22 = 1 by kernel_rfl, show Try.prog.cellsOf 3 = 1 by kernel_rfl, show Try.prog.cellsOf 23 = 1 by kernel_rfl] at h0 h1 h2
    obtain ⟨A1, c1, text, e0, k0, _, r0, u1⟩ := open_i Try.underlying22 Try.underlying46 (by kernel_rfl) h0
    obtain ⟨ent, e1, _, _⟩ := DataW.trod_int Try.underlying3 h1
    obtain ⟨A2, c2, mem, e2, k2, _, r2, u2⟩ := open_i Try.underlying23 Try.underlying2 (by kernel_rfl) h2
    simp at e0 e1 e2
    subst e0 e1 e2
    refine ⟨ent, A1, A2, c1, c2, text, mem, rfl, k0, k2, fun i hi => ?_, fun i hi => ?_, u1, u2⟩
    · have := r0 i hi
      simp [Lit.wf, IntKind.min, IntKind.max, IntKind.signed, IntKind.bits] at this
      omega
    · have := r2 i hi
      simp [Lit.wf, IntKind.min, IntKind.max, IntKind.signed, IntKind.bits] at this
      omega





end Go.Proofs.Ytgkdagnpefgjcaa
