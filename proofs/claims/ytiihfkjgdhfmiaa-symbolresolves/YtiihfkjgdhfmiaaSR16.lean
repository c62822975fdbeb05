/-
  A world in which some blocks have been written over; no Go in sight. The walk of SymbolResolves. The names that were learnt, as plain mathematics; no Go in sight.
-/
import Derived.Test.YtiihfkjgdhfmiaaProg
import Derived.WalkKit
import Derived.WalkSpells
import Derived.WalkLawsBesides
import Derived.RowKit3
import Derived.Below
import Derived.Deep.QuietTactic
import Derived.BigQuiet
import Derived.WalkSmall
import Derived.Laws.Rows
import Derived.Test.YtiihfkjgdhfmiaaSR15
import Derived.Test.YtiihfkjgdhfmiaaSR05
import Derived.Test.YtiihfkjgdhfmiaaSR07
import Derived.Test.YtiihfkjgdhfmiaaSR08
import Derived.Test.YtiihfkjgdhfmiaaSR06
import Derived.Test.YtiihfkjgdhfmiaaSR14
namespace Go.Proofs.Ytiihfkjgdhfmiaa
open Go.RowKit

/-- Blocks of places, between two numbers, may have been written over. -/
structure Mk (TD : TypeId) (s1 s2 : Nat) (w0 w : World) : Prop where
  os : w.os = w0.os
  tape : w.tape = w0.tape
  output : w.output = w0.output
  size : w.heap.size = w0.heap.size
  block : ∀ b : Nat, ¬ (s1 ≤ b ∧ b < s2) → w.heap[b]? = w0.heap[b]?
  typ : ∀ (b : Nat) (cur0 : Array Value) (t : TypeId), w0.heap[b]? = some (.cells cur0 t (0, 0)) → ∃ cur : Array Value, w.heap[b]? = some (.cells cur t (0, 0)) ∧ cur.size = cur0.size ∧ (t ≠ TD → cur = cur0)
theorem Mk.refl (TD : TypeId) (s1 s2 : Nat) (w : World) : Mk TD s1 s2 w w := ⟨rfl, rfl, rfl, rfl, fun _ _ => rfl, fun _ cur _ h => ⟨cur, h, rfl, fun _ => rfl⟩⟩
theorem set_rowM {w : World} {g k : Nat} {cur : Array Value} {t : TypeId} (h : w.heap[g]? = some (.cells cur t (0, 0))) (u : Value) : (w.setCell ⟨g, k, none⟩ u).heap[g]? = some (.cells (cur.setIfInBounds k u) t (0, 0)) := by
  simp [World.setCell, Array.getElem?_modify, h]
theorem Mk.set {TD : TypeId} {s1 s2 : Nat} {w0 w : World} (h : Mk TD s1 s2 w0 w) {g p : Nat} {cur : Array Value} (hg : w.heap[g]? = some (.cells cur TD (0, 0))) (h1 : s1 ≤ g) (h2 : g < s2) (u : Value) : Mk TD s1 s2 w0 (w.setCell ⟨g, p, none⟩ u) := by
  have hoff : ∀ b : Nat, b ≠ g → (w.setCell ⟨g, p, none⟩ u).heap[b]? = w.heap[b]? := fun b hb => Below.heap_setCell _ _ _ _ (fun e => hb (by first | exact e | exact e.symm))
  refine ⟨h.os, h.tape, h.output, by rw [← h.size]; simp [World.setCell], fun b hb => ?_, fun b cur0 t h0 => ?_⟩
  · rw [hoff b (fun e => hb (by rw [e]; exact ⟨h1, h2⟩))]
    exact h.block b hb
  · obtain ⟨c, hc, hs, ht⟩ := h.typ b cur0 t h0
    by_cases he : b = g
    · subst he
      rw [hg] at hc
      simp only [Option.some.injEq, Obj.cells.injEq] at hc
      obtain ⟨rfl, rfl, _⟩ := hc
      exact ⟨_, set_rowM hg u, by rw [Array.size_setIfInBounds]; exact hs, fun hn => absurd rfl hn⟩
    · exact ⟨c, by rw [hoff b he]; exact hc, hs, ht⟩
theorem Mk.below {TD : TypeId} {s1 s2 n : Nat} {W w0 w : World} (h : Mk TD s1 s2 w0 w) (hb : Below n W w0) (hn : n ≤ s1) : Below n W w :=
  ⟨by rw [h.os]; exact hb.os, by rw [h.tape]; exact hb.tape, by rw [h.output]; exact hb.output, by rw [h.size]; exact hb.size, fun k hk => by rw [h.block k (by omega)]; exact hb.block k hk⟩
theorem Mk.own {TD : TypeId} {s1 s2 base n size : Nat} {e : TypeId} {v : Value} {xs : List Value} {w0 w : World} (h : Mk TD s1 s2 w0 w) (ho : w0.ownsRow base e size v n xs) (hs : s2 ≤ base) : w.ownsRow base e size v n xs := by
  refine ⟨ho.1, ?_⟩
  rcases ho.2 with hn | ⟨g, cap, cur, hv, hb, hg, rest⟩
  · exact .inl hn
  · exact .inr ⟨g, cap, cur, hv, hb, by rw [h.block g (by omega)]; exact hg, rest⟩
theorem Mk.rows {TD : TypeId} {s1 s2 base : Nat} {TS TE : TypeId} {V : Value} {vs : List Value} {rows : List (List Rel)} {w0 w : World} (h : Mk TD s1 s2 w0 w) (ho : RowsD w0 base TS TE V vs rows) (hs : s2 ≤ base) : RowsD w base TS TE V vs rows := ⟨h.own ho.bag hs, fun i hi => h.own (ho.row i hi) hs⟩
theorem RowsD.all {w : World} {base c : Nat} {TS TD : TypeId} {A : Option Addr} {n : Nat} {vs : List Value} {rows : List (List Rel)} (h : RowsD w base TS TD (.slice A n c) vs rows) : RowsAt w A rows := fun i hi => h.at i hi
/-- What a loop that writes over an answer meets. -/
theorem Mk.bag {TS TD : TypeId} {s1 s2 base c n : Nat} {A : Option Addr} {vs : List Value} {rows : List (List Rel)} {w0 w : World} (h : Mk TD s1 s2 w0 w) (ho : RowsD w0 base TS TD (.slice A n c) vs rows) (hT : TS ≠ TD) (i : Nat) (hi : i < rows.length) : ∃ g, A = some ⟨g, 0, none⟩ ∧ w.cell? ⟨g, i, none⟩ = some (vn vs i) := by
  obtain ⟨g, e, _, _, hc, cur, hg⟩ := ho.blk i hi
  obtain ⟨c2, h2, _, h3⟩ := h.typ g cur TS hg
  refine ⟨g, e, ?_⟩
  rw [h3 hT] at h2
  rw [← hc]
  simp [World.cell?, h2, hg]
theorem Mk.row {TS TD : TypeId} {s1 s2 : Nat} {V : Value} {vs : List Value} {rows : List (List Rel)} {w0 w w3 : World} (h : Mk TD s1 s2 w0 w) (ho : RowsD w3 s1 TS TD V vs rows) (hs : w3.heap.size = s2) (hk : Below w3.heap.size w3 w0) (i : Nat) (hi : i < rows.length) (hp : 0 < (rowN rows i).length) : ∃ g c cur, vn vs i = .slice (some ⟨g, 0, none⟩) (rowN rows i).length c ∧ s1 ≤ g ∧ g < s2 ∧ w.heap[g]? = some (.cells cur TD (0, 0)) ∧ (rowN rows i).length * 2 ≤ cur.size := by
  obtain ⟨g, c, cur, e, hb, hg, hz, _⟩ := drow_blk (ho.row i hi) hp
  have hlt : g < w3.heap.size := (Array.getElem?_eq_some_iff.1 hg).1
  obtain ⟨c2, h2, h3, _⟩ := h.typ g cur TD (by rw [hk.block g hlt]; exact hg)
  exact ⟨g, c, c2, e, hb, by omega, h2, by omega⟩
theorem cell_at {w : World} {g p : Nat} {cur : Array Value} {t : TypeId} (h : w.heap[g]? = some (.cells cur t (0, 0))) (hp : p < cur.size) : ∃ u, w.cell? ⟨g, p, none⟩ = some u ∧ w.frozen? ⟨g, p, none⟩ = false := by
  exact ⟨cur[p], by simp [World.cell?, h, hp], by simp [World.frozen?, h]⟩
/-- Few and short: an answer. -/
theorem few_res {w : World} {A : Option Addr} {q : Nat → Pl} {l : List Ob} (h : ObsIn w A q l) : FewR (resL l) := by
  unfold resL
  split
  · exact ⟨by simp, fun i hi => by simp at hi⟩
  · refine ⟨by rw [rowsT_len]; exact h.few, fun i hi => ?_⟩
    rw [rowsT_len] at hi
    rw [rowsT_at l hi, rowT_len]
    exact (h.each i hi).hs


end Go.Proofs.Ytiihfkjgdhfmiaa

namespace Go.Proofs.Ytiihfkjgdhfmiaa
open Go.RowKit

set_option maxHeartbeats 16000000 in
set_option maxRecDepth 100000 in
theorem lawResolves (R : ProgR) (F : ProgF) (A : Option Addr) (ca : Nat) (q : Nat → Pl) (l : List Ob) (nm : ByteArray) (w : World) (hA : ObsAt w A q l) (hO : ∀ i, i < l.length → OpenO w (q i) (ob l i)) :
    Calls Try.prog 3 #[.slice A l.length ca, .string nm] w fun e w' => e = .returned (.bool true) ∧ Below w.heap.size w w' := by
  have LV : Hid (∀ wx, Below w.heap.size w wx → Calls Try.prog 6 #[] wx fun e w' => e = .returned (.bool true) ∧ Below wx.heap.size wx w') := fun wx _ => lives_any R F wx
  have CH := heavy_any A ca q l w hA (fun i hi => (hO i hi).sy) (fun i hi => (hO i hi).light)
  have HA : Hid (ObsAt w A q l) := hA
  have HO : Hid (∀ i, i < l.length → OpenO w (q i) (ob l i)) := hO
  clear hA hO
  go_enter Try.func3, Try.ntmps3
  go_wp2_with fail
  refine CH.mono ?_
  rintro e w1 ⟨B, rfl, hB, hb1⟩
  have HB1 : Hid (Below w.heap.size w w1) := hb1
  clear CH hb1
  cases B
  · obtain ⟨hf, hwt⟩ := hB rfl
    have HI : Hid (ObsIn w A q l) := ⟨HA.out, fun i hi => (HO.out i hi).inn (hwt i hi), hf⟩
    clear hB hwt
    by_cases hn : 65536 < nm.size
    · have hn' : (65536 : Int) < (nm.size : Int) := by omega
      go_wp2_with fail
      refine (LV.out _ HB1.out).mono ?_
      rintro e wd ⟨rfl, hbd⟩
      have HBd : Hid (Below w.heap.size w wd) := lb_trans HB1.out hbd
      clear hbd
      go_wp2
      go_ret
      exact ⟨rfl, HBd.out⟩
    · have hn' : ¬ (65536 : Int) < (nm.size : Int) := by omega
      have CW := wideobs_any A ca q l w1 (HI.out.keep HB1.out)
      go_wp2_with fail
      refine CW.mono ?_
      rintro e w2 ⟨rfl, hb2, hw2⟩
      have HB2 : Hid (Below w.heap.size w w2) := lb_trans HB1.out hb2
      have HW2 : Hid (WideO w2 w1.heap.size l (GO (w1.heap.size + 1))) := hw2
      clear CW hb2 hw2
      have C3 := R (some ⟨w1.heap.size, 0, none⟩) (l.length + 64) _ l w2 HW2.out.inn
      have HFW : Hid (FewR (resL l)) := few_res HI.out
      obtain ⟨rs, hrs⟩ : ∃ rs, rs = resL l := ⟨_, rfl⟩
      obtain ⟨E1, hE1⟩ : ∃ E, E = t1 (resE l) := ⟨_, rfl⟩
      obtain ⟨E2, hE2⟩ : ∃ E, E = t2 (resE l) := ⟨_, rfl⟩
      obtain ⟨E3, hE3⟩ : ∃ E, E = t3 (resE l) := ⟨_, rfl⟩
      have HRS : Hid (∀ TS TD wx e w', ResP TS TD l wx e w' → ∃ (A : Option Addr) (c : Nat) (vs : List Value), e = .returned (.tuple #[.slice A rs.length c, .int .i64 E1, .int .i64 E2, .int .i64 E3]) ∧ RowsD w' wx.heap.size TS TD (.slice A rs.length c) vs rs ∧ Below wx.heap.size wx w') := fun TS TD wx e w' h => by rw [hrs, hE1, hE2, hE3]; exact h
      rw [← hrs] at HFW
      clear hrs hE1 hE2 hE3
      have hrl := HFW.out.1
      have HFr : Hid (∀ i, i < rs.length → (rowN rs i).length ≤ 1048576) := HFW.out.2
      go_wp2_with fail
      refine C3.mono ?_
      intro e w3 h3
      obtain ⟨a3, c3, v3, rfl, r3, hb3⟩ := HRS.out _ _ _ _ _ h3
      have HB3 : Hid (Below w.heap.size w w3) := lb_trans HB2.out hb3
      have HK3 : Hid (Below w2.heap.size w2 w3) := hb3
      have HR3 : Hid (RowsD w3 w2.heap.size 41 34 (.slice a3 rs.length c3) v3 rs) := r3
      have C4 := R (some ⟨w1.heap.size, 0, none⟩) (l.length + 64) _ l w3 (HW2.out.keep hb3).inn
      clear C3 h3 r3 hb3
      go_wp2_with fail
      refine C4.mono ?_
      intro e w4 h4
      obtain ⟨a4, c4, v4, rfl, r4, hb4⟩ := HRS.out _ _ _ _ _ h4
      have HB4 : Hid (Below w.heap.size w w4) := lb_trans HB3.out hb4
      have HK4 : Hid (Below w3.heap.size w3 w4) := hb4
      have HR4 : Hid (RowsD w4 w3.heap.size 41 34 (.slice a4 rs.length c4) v4 rs) := r4
      have C5 := refresolve_any A ca q l w4 (HI.out.keep HB4.out)
      clear C4 h4 r4 hb4
      go_wp2_with fail
      refine C5.mono ?_
      intro e w5 h5
      obtain ⟨a5, c5, v5, rfl, r5, hb5⟩ := HRS.out _ _ _ _ _ h5
      have HB5 : Hid (Below w.heap.size w w5) := lb_trans HB4.out hb5
      have HK5 : Hid (Below w4.heap.size w4 w5) := hb5
      have HR5 : Hid (RowsD w5 w4.heap.size 70 37 (.slice a5 rs.length c5) v5 rs) := r5
      have HK25 : Hid (Below w2.heap.size w2 w5) := lb_trans HK3.out (lb_trans HK4.out hb5)
      have C6 := F (some ⟨w1.heap.size, 0, none⟩) (l.length + 64) _ l nm w5 (HW2.out.keep HK25.out).inn (by omega)
      clear C5 h5 r5 hb5 HRS
      obtain ⟨x, hx⟩ : ∃ x, x = findF nm l := ⟨_, rfl⟩
      rw [← hx] at C6
      unfold DefP at C6
      go_wp2_with fail
      refine C6.mono ?_
      rintro e w6 ⟨rfl, hb6⟩
      have HB6 : Hid (Below w.heap.size w (w6.alloc (.cells #[.int .i64 (dfI x), .int .i64 (dfA x)] 34))) := lb_alloc (lb_trans HB5.out hb6) _
      have C7 := reffind_any A ca q l nm (w6.alloc (.cells #[.int .i64 (dfI x), .int .i64 (dfA x)] 34)) (HI.out.keep HB6.out)
      rw [← hx] at C7
      unfold DefP at C7
      have HK56 : Hid (Below w5.heap.size w5 (w6.alloc (.cells #[.int .i64 (dfI x), .int .i64 (dfA x)] 34))) := lb_alloc hb6 _
      clear C6 hb6 hx
      go_wp2_with fail
      refine C7.mono ?_
      rintro e w7 ⟨rfl, hb7⟩
      obtain ⟨W, hW⟩ : ∃ W, W = w7.alloc (.cells #[.int .i64 (dfI x), .int .i64 (dfA x)] 37) := ⟨_, rfl⟩
      have hbW : Below (w6.alloc (.cells #[.int .i64 (dfI x), .int .i64 (dfA x)] 34)).heap.size (w6.alloc (.cells #[.int .i64 (dfI x), .int .i64 (dfA x)] 34)) W := by rw [hW]; exact lb_alloc hb7 _
      have HB8 : Hid (Below w.heap.size w W) := lb_trans HB6.out hbW
      have HK8 : Hid (Below w5.heap.size w5 W) := lb_trans HK56.out hbW
      obtain ⟨x0, x1, -, -⟩ := two_keep (heap_alloc_new w6 (.cells #[.int .i64 (dfI x), .int .i64 (dfA x)] 34)) hbW
      have y0 : W.cell? ⟨w7.heap.size, 0, none⟩ = some (.int .i64 (dfI x)) := by rw [hW]; simp [go_sem]
      have y1 : W.cell? ⟨w7.heap.size, 1, none⟩ = some (.int .i64 (dfA x)) := by rw [hW]; simp [go_sem]
      have HX0 : Hid _ := x0
      have HX1 : Hid _ := x1
      have HY0 : Hid _ := y0
      have HY1 : Hid _ := y1
      have HR3W : Hid (RowsD W w2.heap.size 41 34 (.slice a3 rs.length c3) v3 rs) := HR3.out.keep (lb_trans HK4.out (lb_trans HK5.out HK8.out))
      have HR4W : Hid (RowsD W w3.heap.size 41 34 (.slice a4 rs.length c4) v4 rs) := HR4.out.keep (lb_trans HK5.out HK8.out)
      have HR5W : Hid (RowsD W w4.heap.size 70 37 (.slice a5 rs.length c5) v5 rs) := HR5.out.keep HK8.out
      have C9 := same_any a3 a5 c3 c5 rs W HR3W.out.all HR5W.out.all HFW.out
      clear C7 hb7 hbW x0 x1 y0 y1
      go_wp2_with fail
      rw [← hW]
      refine C9.mono ?_
      rintro e w9 ⟨rfl, hb9⟩
      have C10 := same_any a4 a5 c4 c5 rs w9 (HR4W.out.all.keep hb9) (HR5W.out.all.keep hb9) HFW.out
      have HK9 : Hid (Below W.heap.size W w9) := hb9
      clear C9 hb9
      go_wp2_with fail
      refine C10.mono ?_
      rintro e w10 ⟨rfl, hb10⟩
      have HK10 : Hid (Below W.heap.size W w10) := lb_trans HK9.out hb10
      have x0 := lkeep HK10.out HX0.out
      have x1 := lkeep HK10.out HX1.out
      have y0 := lkeep HK10.out HY0.out
      have y1 := lkeep HK10.out HY1.out
      have HB10 : Hid (Below w.heap.size w w10) := lb_trans HB8.out HK10.out
      have HR3M : Hid (RowsD w10 w2.heap.size 41 34 (.slice a3 rs.length c3) v3 rs) := HR3W.out.keep HK10.out
      have HR4M : Hid (RowsD w10 w3.heap.size 41 34 (.slice a4 rs.length c4) v4 rs) := HR4W.out.keep HK10.out
      have HR5M : Hid (RowsD w10 w4.heap.size 70 37 (.slice a5 rs.length c5) v5 rs) := HR5W.out.keep HK10.out
      have HKM3 : Hid (Below w3.heap.size w3 w10) := lb_trans HK4.out (lb_trans HK5.out (lb_trans HK8.out HK10.out))
      have HKM2 : Hid (Below w2.heap.size w2 w10) := lb_trans HK3.out HKM3.out
      have HS23 : Hid (w2.heap.size ≤ w3.heap.size) := HK3.out.size
      have HS34 : Hid (w3.heap.size ≤ w4.heap.size) := HK4.out.size
      clear C10 hb10 HR3W HR4W HR5W HR4 HR5 HX0 HX1 HY0 HY1 HB8 HK8 HK9 HB6 HK56 HB5 HK5 HB4 HK4 HB3 HK3 HK25 HK10
      go_wp2
      clear x0 x1 y0 y1 hW
      go_loopw [22] (fun i wr => ∃ k : Nat, i = .int .i64 k ∧ k ≤ rs.length ∧ Hid (Mk 34 w2.heap.size w3.heap.size w10 wr)) (fun i _ => rs.length - (intOf i).toNat)
      case atStart => exact ⟨0, rfl, Nat.zero_le _, Mk.refl _ _ _ _⟩
      case round =>
        obtain ⟨k, rfl, hk, HM⟩ := hrel
        by_cases hkl : k < rs.length
        · have hkl' : (k : Int) < (rs.length : Int) := by omega
          obtain ⟨g, eg, -⟩ := HM.out.bag HR3M.out (by decide) k hkl
          subst eg
          have hrk := HFr.out k hkl
          go_wp2
          go_loopw [23] (fun i wr => ∃ j : Nat, i = .int .i64 j ∧ j ≤ (rowN rs k).length ∧ Hid (Mk 34 w2.heap.size w3.heap.size w10 wr)) (fun i _ => (rowN rs k).length - (intOf i).toNat)
          case atStart => exact ⟨0, rfl, Nat.zero_le _, HM⟩
          case round =>
            clear HM
            obtain ⟨j, rfl, hj, HM1⟩ := hrel
            obtain ⟨g', eg, hcg⟩ := HM1.out.bag HR3M.out (by decide) k hkl
            cases eg
            obtain ⟨P, cp, ep, -⟩ := own_any (HR3.out.row k hkl)
            by_cases hjl : j < (rowN rs k).length
            · have hjl' : (j : Int) < ((rowN rs k).length : Int) := by omega
              obtain ⟨h, ch, cur, eh, hh1, hh2, hhc, hhs⟩ := HM1.out.row HR3.out rfl HKM3.out k hkl (by omega)
              rw [eh] at hcg
              obtain ⟨u0, z0, f0⟩ := cell_at (p := j * 2) hhc (by omega)
              obtain ⟨u1, z1, f1⟩ := cell_at (p := j * 2 + 1) hhc (by omega)
              have HM2 : Hid (Mk 34 w2.heap.size w3.heap.size w10 ((wr.setCell ⟨h, j * 2, none⟩ (.int .i64 (-1))).setCell ⟨h, j * 2 + 1, none⟩ (.int .i64 0))) := (HM1.out.set hhc hh1 hh2 _).set (set_rowM hhc _) hh1 hh2 _
              clear hhc hhs hh1 hh2 ep eh
              go_wp2
              go_roundw
              case rel => exact ⟨j + 1, by go_num, by omega, HM2⟩
              case measure => simp [intOf]; omega
            · have hjl' : ¬ (j : Int) < ((rowN rs k).length : Int) := by omega
              rw [ep] at hcg
              clear ep
              go_wp2
              go_roundw
              case rel => exact ⟨k + 1, by go_num, by omega, HM1⟩
              case measure => simp [intOf]; omega
        · have hkl' : ¬ (k : Int) < (rs.length : Int) := by omega
          have HBm : Hid (Below w.heap.size w wr) := HM.out.below HB10.out HB2.out.size
          have HBm2 : Hid (Below w2.heap.size w2 wr) := HM.out.below HKM2.out (Nat.le_refl _)
          have C11 := same_any a4 a5 c4 c5 rs wr (HM.out.rows HR4M.out (Nat.le_refl _)).all (HM.out.rows HR5M.out HS34.out).all HFW.out
          go_wp2_with fail
          refine C11.mono ?_
          rintro e w11 ⟨rfl, hb11⟩
          have HB11 : Hid (Below w.heap.size w w11) := lb_trans HBm.out hb11
          have HW11 : Hid (WideO w11 w1.heap.size l (GO (w1.heap.size + 1))) := HW2.out.keep (lb_trans HBm2.out hb11)
          have C12 := eqobs_same (some ⟨w1.heap.size, 0, none⟩) A (l.length + 64) ca _ q l w11 HW11.out.inn (HI.out.keep HB11.out)
          clear C11 hb11 HBm HBm2
          go_wp2_with fail
          refine C12.mono ?_
          rintro e w12 ⟨rfl, hb12⟩
          have HB12 : Hid (Below w.heap.size w w12) := lb_trans HB11.out hb12
          have C13 := spareobs_any w1.heap.size l _ w12 (HW11.out.keep hb12)
          clear C12 hb12
          go_wp2_with fail
          refine C13.mono ?_
          rintro e w13 ⟨rfl, hb13⟩
          have HB13 : Hid (Below w.heap.size w w13) := lb_trans HB12.out hb13
          clear C13 hb13
          go_wp2_with fail
          refine (LV.out _ HB13.out).mono ?_
          rintro e wd ⟨rfl, hbd⟩
          have HBd : Hid (Below w.heap.size w wd) := lb_trans HB13.out hbd
          clear hbd
          go_wp2
          go_ret
          exact ⟨rfl, HBd.out⟩
  · clear hB
    go_wp2_with fail
    refine (LV.out _ HB1.out).mono ?_
    rintro e wd ⟨rfl, hbd⟩
    have HBd : Hid (Below w.heap.size w wd) := lb_trans HB1.out hbd
    clear hbd
    go_wp2
    go_ret
    exact ⟨rfl, HBd.out⟩


end Go.Proofs.Ytiihfkjgdhfmiaa

namespace Go.Proofs.Ytiihfkjgdhfmiaa
open Go.RowKit

theorem fst_congr {β : Type} {f g : Nat → Option β} : ∀ {n : Nat}, (∀ j, j < n → f j = g j) → fstN f n = fstN g n
  | 0, _ => rfl
  | n + 1, h => by rw [fstN, fstN, fst_congr (fun j hj => h j (by omega)), h n (by omega)]
theorem rowF_succ (nm : ByteArray) (kd : Int) (ss : List Sym) (n : Nat) : rowF nm kd ss (n + 1) = match rowF nm kd ss n with
    | some a => some a
    | none => hitS nm kd ss n := by unfold rowF; rw [fstN]; cases fstN (hitS nm kd ss) n <;> rfl
theorem hitO_other (nm : ByteArray) (kd : Int) (l : List Ob) {o s o' s' i : Nat} (h : upTo l o s i = upTo l o' s' i) : hitO nm kd l o s i = hitO nm kd l o' s' i := by unfold hitO; rw [h]
/-- One symbol more. -/
theorem firstF_step (nm : ByteArray) (kd : Int) (l : List Ob) {i k : Nat} (hi : i < l.length) (hk : k < (ob l i).ss.length) : firstF nm kd l i (k + 1) = match firstF nm kd l i k with
    | some x => some x
    | none => (hitS nm kd (ob l i).ss k).map fun a => (i, a) := by
  unfold firstF
  rw [show min l.length (i + 1) = i + 1 by omega, fstN, fstN]
  rw [fst_congr (f := hitO nm kd l i (k + 1)) (g := hitO nm kd l i k) (fun j hj => hitO_other _ _ _ (by unfold upTo; rw [if_neg (by omega), if_neg (by omega)]))]
  cases fstN (hitO nm kd l i k) i with
  | some b => rfl
  | none =>
    show hitO nm kd l i (k + 1) i = match hitO nm kd l i k i with
      | some x => some x
      | none => _
    unfold hitO
    rw [show upTo l i (k + 1) i = k + 1 by unfold upTo; rw [if_pos rfl]; omega, show upTo l i k i = k by unfold upTo; rw [if_pos rfl]; omega, rowF_succ]
    cases rowF nm kd (ob l i).ss k <;> rfl
/-- The next object. -/
theorem firstF_next (nm : ByteArray) (kd : Int) (l : List Ob) {i : Nat} (hi : i < l.length) : firstF nm kd l (i + 1) 0 = firstF nm kd l i (ob l i).ss.length := by
  unfold firstF
  rw [show min l.length (i + 1) = i + 1 by omega]
  have key : fstN (hitO nm kd l (i + 1) 0) (i + 1) = fstN (hitO nm kd l i (ob l i).ss.length) (i + 1) := fst_congr (fun j hj => hitO_other _ _ _ (by
    unfold upTo
    rw [if_neg (by omega)]
    split
    · next h => subst h; omega
    · rfl))
  by_cases h : i + 1 < l.length
  · rw [show min l.length (i + 1 + 1) = i + 1 + 1 by omega, fstN, key]
    cases fstN (hitO nm kd l i (ob l i).ss.length) (i + 1) with
    | some b => rfl
    | none =>
      show hitO nm kd l (i + 1) 0 (i + 1) = none
      unfold hitO
      rw [show upTo l (i + 1) 0 (i + 1) = 0 by unfold upTo; rw [if_pos rfl]; omega]
      rfl
  · rw [show min l.length (i + 1 + 1) = i + 1 by omega, key]
theorem firstF_zero (nm : ByteArray) (kd : Int) (l : List Ob) : firstF nm kd l 0 0 = none := by
  unfold firstF
  refine fst_none fun j hj => ?_
  obtain rfl : j = 0 := by omega
  unfold hitO
  rw [show upTo l 0 0 0 = 0 by unfold upTo; rw [if_pos rfl]; omega]
  rfl
/-- What a name stands for below a place, and the kind of the symbol that says so. -/
def seenF (nm : ByteArray) (l : List Ob) (o s : Nat) : Option ((Nat × Int) × Int) := match firstF nm 1 l o s with
  | some x => some (x, 1)
  | none => (firstF nm 2 l o s).map fun x => (x, 2)
def mI : Option ((Nat × Int) × Int) → Nat
  | some x => x.1.1
  | none => 0
def mA : Option ((Nat × Int) × Int) → Int
  | some x => x.1.2
  | none => 0
def mK : Option ((Nat × Int) × Int) → Int
  | some x => x.2
  | none => 0
theorem seen_zero (nm : ByteArray) (l : List Ob) : seenF nm l 0 0 = none := by
  unfold seenF
  rw [firstF_zero, firstF_zero]
  rfl
theorem seen_next (nm : ByteArray) (l : List Ob) {i : Nat} (hi : i < l.length) : seenF nm l (i + 1) 0 = seenF nm l i (ob l i).ss.length := by
  unfold seenF
  rw [firstF_next _ _ _ hi, firstF_next _ _ _ hi]
theorem seen_kind (nm : ByteArray) (l : List Ob) (o s : Nat) : (mK (seenF nm l o s) == 1) = (firstF nm 1 l o s).isSome := by
  unfold seenF
  cases firstF nm 1 l o s with
  | some x => rfl
  | none => cases firstF nm 2 l o s <;> rfl
theorem seen_find (nm : ByteArray) (l : List Ob) : (seenF nm l l.length 0).isSome = (findF nm l).isSome ∧ mI (seenF nm l l.length 0) = dfI (findF nm l) ∧ mA (seenF nm l l.length 0) = dfA (findF nm l) := by
  unfold seenF findF
  cases firstF nm 1 l l.length 0 with
  | some x => exact ⟨rfl, rfl, rfl⟩
  | none => cases firstF nm 2 l l.length 0 <;> exact ⟨rfl, rfl, rfl⟩
/-- A symbol of another name. -/
theorem seen_other {nm : ByteArray} {l : List Ob} {i k : Nat} (hi : i < l.length) (hk : k < (ob l i).ss.length) (h : ((sName (ob l i).ss k).toList == nm.toList) = false) : seenF nm l i (k + 1) = seenF nm l i k := by
  unfold seenF
  rw [firstF_step nm 1 l hi hk, firstF_step nm 2 l hi hk, hitS_no (kd := 1) (Or.inl h), hitS_no (kd := 2) (Or.inl h)]
  cases firstF nm 1 l i k with
  | some x => rfl
  | none => cases firstF nm 2 l i k <;> rfl
/-- What is kept, once a symbol was met. -/
def learnV (v : Option ((Nat × Int) × Int)) (i : Nat) (at_ kd : Int) : Option ((Nat × Int) × Int) := if (kd == 1) = true ∨ (kd == 2) = true ∧ v.isSome = false then some ((i, at_), kd) else v
theorem seen_same {nm : ByteArray} {l : List Ob} {i k : Nat} (hi : i < l.length) (hk : k < (ob l i).ss.length) (h : ((sName (ob l i).ss k).toList == nm.toList) = true) (hg : (sKind (ob l i).ss k == 1) = true → (firstF nm 1 l i k).isSome = false) : seenF nm l i (k + 1) = learnV (seenF nm l i k) i (sAt (ob l i).ss k) (sKind (ob l i).ss k) := by
  unfold seenF learnV
  rw [firstF_step nm 1 l hi hk, firstF_step nm 2 l hi hk]
  cases h1 : (sKind (ob l i).ss k == 1) with
  | true =>
    have := hg h1
    rw [hitS_yes h h1]
    cases hf : firstF nm 1 l i k with
    | some x => rw [hf] at this; cases this
    | none =>
      rw [if_pos (Or.inl rfl)]
      have e : sKind (ob l i).ss k = 1 := by simpa using h1
      rw [e]
      rfl
  | false =>
    rw [hitS_no (kd := 1) (Or.inr h1)]
    cases hf : firstF nm 1 l i k with
    | some x =>
      rw [if_neg (by simp)]
    | none =>
      cases h2 : (sKind (ob l i).ss k == 2) with
      | true =>
        rw [hitS_yes h h2]
        have e : sKind (ob l i).ss k = 2 := by simpa using h2
        cases hf2 : firstF nm 2 l i k with
        | some x => rw [if_neg (by simp)]; rfl
        | none => rw [if_pos (by simp), e]; rfl
      | false =>
        rw [hitS_no (kd := 2) (Or.inr h2), if_neg (by simp)]
        cases hf2 : firstF nm 2 l i k <;> rfl
/-- A map's meaning with one name's turned. -/
def putF (f : ByteArray → Option ((Nat × Int) × Int)) (s : ByteArray) (v : Option ((Nat × Int) × Int)) (x : ByteArray) : Option ((Nat × Int) × Int) := if (s.toList == x.toList) = true then v else f x
theorem bytes_eq {a b : ByteArray} (h : (a.toList == b.toList) = true) : a = b := by
  have h : a.toList = b.toList := by simpa using h
  rw [ByteArray.toList_eq, ByteArray.toList_eq] at h
  cases a; cases b; simp at h; congr
/-- All names, one symbol more. -/
theorem seen_put {l : List Ob} {i k : Nat} {f : ByteArray → Option ((Nat × Int) × Int)} (hi : i < l.length) (hk : k < (ob l i).ss.length) (hf : ∀ x, f x = seenF x l i k) (ht : twS l i k = none) (x : ByteArray) : putF f (sName (ob l i).ss k) (learnV (f (sName (ob l i).ss k)) i (sAt (ob l i).ss k) (sKind (ob l i).ss k)) x = seenF x l i (k + 1) := by
  unfold putF
  cases hx : ((sName (ob l i).ss k).toList == x.toList) with
  | false =>
    rw [if_neg (by simp), seen_other hi hk hx]
    exact hf x
  | true =>
    rw [if_pos rfl]
    have e := bytes_eq hx
    rw [seen_same hi hk hx, hf, e]
    intro hg
    unfold twS at ht
    split at ht
    · cases ht
    · next hn =>
      cases hs : (firstF x 1 l i k).isSome with
      | false => rfl
      | true => rw [e] at hn; exact absurd ⟨hg, hs⟩ hn
theorem learn_no {v : Option ((Nat × Int) × Int)} {i : Nat} {a kd : Int} (h1 : (kd == 1) = false) (h2 : (kd == 2) = false ∨ v.isSome = true) : learnV v i a kd = v := by
  unfold learnV
  rw [if_neg]
  rintro (h | ⟨h, h'⟩)
  · rw [h1] at h; cases h
  · rcases h2 with h2 | h2
    · rw [h2] at h; cases h
    · rw [h2] at h'; cases h'
theorem learn_yes {v : Option ((Nat × Int) × Int)} {i : Nat} {a kd : Int} (h : (kd == 1) = true ∨ (kd == 2) = true ∧ v.isSome = false) : learnV v i a kd = some ((i, a), kd) := by
  unfold learnV
  rw [if_pos h]
theorem putF_same (f : ByteArray → Option ((Nat × Int) × Int)) (s x : ByteArray) : putF f s (f s) x = f x := by
  unfold putF
  split
  · next h => rw [bytes_eq h]
  · rfl
/-- What was found stays found. -/
theorem firstF_row {nm : ByteArray} {kd : Int} {l : List Ob} {i j : Nat} {x : Nat × Int} (hi : i < l.length) (h : firstF nm kd l i j = some x) : ∀ d, j + d ≤ (ob l i).ss.length → firstF nm kd l i (j + d) = some x
  | 0, _ => h
  | d + 1, hd => by rw [show j + (d + 1) = j + d + 1 by omega, firstF_step nm kd l hi (by omega), firstF_row hi h d (by omega)]
theorem firstF_objs {nm : ByteArray} {kd : Int} {l : List Ob} {i : Nat} {x : Nat × Int} (h : firstF nm kd l i 0 = some x) : ∀ d, i + d ≤ l.length → firstF nm kd l (i + d) 0 = some x
  | 0, _ => h
  | d + 1, hd => by
    rw [show i + (d + 1) = i + d + 1 by omega, firstF_next nm kd l (by omega)]
    have := firstF_row (by omega) (firstF_objs h d (by omega)) (ob l (i + d)).ss.length (by omega)
    rwa [Nat.zero_add] at this
theorem firstF_full {nm : ByteArray} {kd : Int} {l : List Ob} {i j : Nat} {x : Nat × Int} (hi : i < l.length) (hj : j ≤ (ob l i).ss.length) (h : firstF nm kd l i j = some x) : firstF nm kd l l.length 0 = some x := by
  have a := firstF_row hi h ((ob l i).ss.length - j) (by omega)
  rw [show j + ((ob l i).ss.length - j) = (ob l i).ss.length by omega, ← firstF_next nm kd l hi] at a
  have b := firstF_objs a (l.length - (i + 1)) (by omega)
  rwa [show i + 1 + (l.length - (i + 1)) = l.length by omega] at b
theorem firstF_same {nm : ByteArray} {kd : Int} {l : List Ob} {i k : Nat} (hi : i < l.length) (hk : k < (ob l i).ss.length) (h : hitS nm kd (ob l i).ss k = none) (h0 : firstF nm kd l i k = none) : firstF nm kd l i (k + 1) = none := by
  rw [firstF_step nm kd l hi hk, h0, h]
  rfl
/-- Find's own state. -/
theorem find_put {nm : ByteArray} {l : List Ob} {i k : Nat} {f : ByteArray → Option ((Nat × Int) × Int)} (hi : i < l.length) (hk : k < (ob l i).ss.length) (hn : ((sName (ob l i).ss k).toList == nm.toList) = true) (hf : f nm = seenF nm l i k) (h1 : firstF nm 1 l i k = none) : putF f (sName (ob l i).ss k) (learnV (f (sName (ob l i).ss k)) i (sAt (ob l i).ss k) (sKind (ob l i).ss k)) nm = seenF nm l i (k + 1) := by
  unfold putF
  rw [if_pos hn, bytes_eq hn, hf, seen_same hi hk hn (fun _ => by rw [h1]; rfl)]
theorem find_hit {nm : ByteArray} {l : List Ob} {i k : Nat} (hi : i < l.length) (hk : k < (ob l i).ss.length) (hn : ((sName (ob l i).ss k).toList == nm.toList) = true) (h1 : firstF nm 1 l i k = none) (hg : (sKind (ob l i).ss k == 1) = true) : firstF nm 1 l i (k + 1) = some (i, sAt (ob l i).ss k) := by
  rw [firstF_step nm 1 l hi hk, h1, hitS_yes hn hg]
  rfl
/-- What the map tells is what the name stands for. -/
def Tells (v : Option ((Nat × Int) × Int)) (x : Option (Nat × Int)) : Prop := v.isSome = x.isSome ∧ mI v = dfI x ∧ mA v = dfA x
theorem tells_hit {nm : ByteArray} {l : List Ob} {i k : Nat} (hi : i < l.length) (hk : k < (ob l i).ss.length) (hn : ((sName (ob l i).ss k).toList == nm.toList) = true) (h1 : firstF nm 1 l i k = none) (hg : (sKind (ob l i).ss k == 1) = true) : Tells (seenF nm l i (k + 1)) (findF nm l) := by
  have a := find_hit hi hk hn h1 hg
  have b := firstF_full hi (by omega) a
  unfold seenF findF
  rw [a, b]
  exact ⟨rfl, rfl, rfl⟩
theorem tells_full (nm : ByteArray) (l : List Ob) : Tells (seenF nm l l.length 0) (findF nm l) := seen_find nm l

end Go.Proofs.Ytiihfkjgdhfmiaa
