/-
  One spot more is kept.
-/
import Derived.Test.YtkdafkdogmemcaaProg
import Derived.WalkKit
import Derived.WalkSpells
import Derived.WalkLawsBesides
import Derived.RowKit3
import Derived.Below
import Derived.Deep.QuietTactic
import Derived.BigQuiet
import Derived.WalkSmall
import Derived.Laws.Rows
import Derived.Test.YtkdafkdogmemcaaPm07
import Derived.Deep.AppendLies
import Derived.OwnWalk
namespace Go.Proofs.Ytkdafkdogmemcaa
open Go.RowKit

theorem own_off {W : World} {base n K : Nat} {e t : TypeId} {size : Nat} {v : Value} {xs : List Value} {cs : Array Value} {m : Nat × Nat} (h : W.ownsRow base e size v n xs) (hK : W.heap[K]? = some (.cells cs t m)) (hne : e ≠ t) : v.ownBlock ≠ some K := fun e1 => by
  obtain ⟨cs', h1⟩ := own_blockB h e1
  rw [h1] at hK
  cases hK
  exact hne rfl
theorem set_own {W : World} {base n K : Nat} {e : TypeId} {size : Nat} {v : Value} {xs : List Value} (h : W.ownsRow base e size v n xs) (hne : v.ownBlock ≠ some K) (i : Nat) (u : Value) : (W.setCell ⟨K, i, none⟩ u).ownsRow base e size v n xs :=
  h.kept (Lib.grownBy_setB (World.grownBy.refl W _) i u) (.inr hne)
section
variable {w : World} {K base : Nat} {X Y : Option Addr} {ko kq : Nat} {O : List Spt} {Q : List Int}
/-- The spots have grown. -/
theorem KpAt.put0 (h : KpAt w K base X Y ko kq O Q) {w' : World} {X' : Option Addr} {ko' : Nat} {s : Spt} (hg : w.grownBy w' (Value.slice X O.length ko).ownBlock) (ho : w'.ownsRow base 27 3 (.slice X' (O.length + 1) ko') (O.length + 1) (spNews O ++ spNews [s])) :
    KpAt (w'.setCell ⟨K, 0, none⟩ (.slice X' (O.length + 1) ko')) K base X' Y ko' kq (O ++ [s]) Q := by
  have hK : w'.heap[K]? = some (.cells #[.slice X O.length ko, .slice Y Q.length kq] 34 (0, 0)) := (hg.block K (Array.getElem?_eq_some_iff.1 h.box).1 (fun e => own_off h.spots h.box (by decide) e.symm)).trans h.box
  have hY : w'.ownsRow base 3 1 (.slice Y Q.length kq) Q.length (iVals .i64 Q) := h.places.kept hg (by
    cases hy : (Value.slice Y Q.length kq).ownBlock with
    | none => exact .inl rfl
    | some g =>
      obtain ⟨cs, h1⟩ := own_blockB h.places hy
      exact .inr (fun e => own_off h.spots h1 (by decide) e.symm))
  have e : (O ++ [s]).length = O.length + 1 := by rw [List.length_append]; rfl
  refine ⟨?_, ?_, set_own hY (own_off hY hK (by decide)) 0 _⟩
  · rw [heap_setCell_same w' K 0 _ _ _ hK, e]; rfl
  · rw [e, spNews_app]
    exact set_own ho (own_off ho hK (by decide)) 0 _
/-- The places have grown. -/
theorem KpAt.put1 (h : KpAt w K base X Y ko kq O Q) {w' : World} {Y' : Option Addr} {kq' : Nat} {R : List Int} (hR : R.length = Q.length + 1) (hg : w.grownBy w' (Value.slice Y Q.length kq).ownBlock) (ho : w'.ownsRow base 3 1 (.slice Y' (Q.length + 1) kq') (Q.length + 1) (iVals .i64 R)) :
    KpAt (w'.setCell ⟨K, 1, none⟩ (.slice Y' (Q.length + 1) kq')) K base X Y' ko kq' O R := by
  have hK : w'.heap[K]? = some (.cells #[.slice X O.length ko, .slice Y Q.length kq] 34 (0, 0)) := (hg.block K (Array.getElem?_eq_some_iff.1 h.box).1 (fun e => own_off h.places h.box (by decide) e.symm)).trans h.box
  have hX : w'.ownsRow base 27 3 (.slice X O.length ko) O.length (spNews O) := h.spots.kept hg (by
    cases hy : (Value.slice X O.length ko).ownBlock with
    | none => exact .inl rfl
    | some g =>
      obtain ⟨cs, h1⟩ := own_blockB h.spots hy
      exact .inr (fun e => own_off h.places h1 (by decide) e.symm))
  refine ⟨?_, set_own hX (own_off hX hK (by decide)) 1 _, ?_⟩
  · rw [heap_setCell_same w' K 1 _ _ _ hK, hR]; rfl
  · rw [hR]
    exact set_own ho (own_off ho hK (by decide)) 1 _
end
def KepP (K base : Nat) (O : List Spt) (Q : List Int) (s : Spt) (w : World) (e : Ending) (w' : World) : Prop := (∃ (X Y : Option Addr) (ko kq : Nat), KpAt w' K base X Y ko kq (O ++ [s]) (insN Q s.1)) ∧ e = .returned (.tuple #[]) ∧ Below base w w'
set_option maxRecDepth 100000 in
set_option maxHeartbeats 4000000 in
theorem keep_any (K base : Nat) (X Y : Option Addr) (ko kq : Nat) (O : List Spt) (Q : List Int) (s0 s1 s2 : Int) (w : World) (h : KpAt w K base X Y ko kq O Q) (hs : Srt Q) (hl : Q.length ≤ 1048576) (hlo : O.length ≤ 1048576) (hbK : base ≤ K) :
    Calls Try.prog 9 #[.pointer (some ⟨K, 0, none⟩), .agg #[.int .i64 s0, .int .i8 s1, .int .i8 s2]] w (KepP K base O Q (s0, s1, s2) w) := by
  obtain ⟨iB, hi, hz0, hz1, hz2⟩ := infoSp
  have HS : Hid (Srt Q) := hs
  have hKl : K < w.heap.size := (Array.getElem?_eq_some_iff.1 h.box).1
  obtain ⟨W0, hW0⟩ : ∃ W, w.alloc (.cells #[.int .i64 s0, .int .i8 s1, .int .i8 s2] 27) = W := ⟨_, rfl⟩
  have x0 : W0.cell? ⟨w.heap.size, 0, none⟩ = some (.int .i64 s0) := by rw [← hW0]; simp [go_sem]
  have x1 : W0.cell? ⟨w.heap.size, 1, none⟩ = some (.int .i8 s1) := by rw [← hW0]; simp [go_sem]
  have x2 : W0.cell? ⟨w.heap.size, 2, none⟩ = some (.int .i8 s2) := by rw [← hW0]; simp [go_sem]
  have hB0 : Below w.heap.size w W0 := by rw [← hW0]; exact lb_alloc (Below.refl _ _) _
  have hz : W0.heap.size = w.heap.size + 1 := by rw [← hW0]; simp
  have hk0 : KpAt W0 K base X Y ko kq O Q := h.keep hB0
  have HK0 : Hid (KpAt W0 K base X Y ko kq O Q) := hk0
  have HB0 : Hid (Below w.heap.size w W0) := hB0
  have HW0 : Hid _ := hW0
  have c0 := hk0.c0
  have hXlt : ∀ k, (Value.slice X O.length ko).ownBlock = some k → k < w.heap.size := fun k hk => (h.spots.lt k hk).2
  have HXlt : Hid (∀ k, (Value.slice X O.length ko).ownBlock = some k → k < w.heap.size) := hXlt
  clear h hs hW0 hB0 hk0 hXlt
  have hbz : base ≤ W0.heap.size := by omega
  have HKa : Hid (KpAt (W0.alloc (.cells #[.int .i64 s0, .int .i8 s1, .int .i8 s2] 27)).drew K base X Y ko kq O Q) := HK0.out.keep ((lb_alloc (Below.refl _ _) _).drew)
  have HO2 : Hid ((W0.alloc (.cells #[.int .i64 s0, .int .i8 s1, .int .i8 s2] 27)).drew.ownsRow base 27 3 (.slice X O.length ko) O.length (spNews O)) := HKa.out.spots
  have HNw : Hid ((W0.alloc (.cells #[.int .i64 s0, .int .i8 s1, .int .i8 s2] 27)).drew.heap[w.heap.size + 1]? = some (.cells #[.int .i64 s0, .int .i8 s1, .int .i8 s2] 27 (0, 0))) := by
    unfold Hid
    rw [← hz]
    exact heap_alloc_new W0 _
  have HBa : Hid (Below w.heap.size w (W0.alloc (.cells #[.int .i64 s0, .int .i8 s1, .int .i8 s2] 27)).drew) := (lb_alloc HB0.out _).drew
  have HXb : Hid (W0.heap[w.heap.size]? = some (.cells #[.int .i64 s0, .int .i8 s1, .int .i8 s2] 27 (0, 0))) := by rw [← HW0.out]; exact heap_alloc_new w _
  have hsl : base ≤ (W0.alloc (.cells #[.int .i64 s0, .int .i8 s1, .int .i8 s2] 27)).drew.heap.size := by simp; omega
  have hsw : (W0.alloc (.cells #[.int .i64 s0, .int .i8 s1, .int .i8 s2] 27)).drew.heap.size = W0.heap.size + 1 := by simp
  go_enter Try.func9, Try.ntmps9
  go_upto_region 1 with fail
  rw [HW0.out]
  clear HW0
  rename_i K1 hK1
  have K2 : ∀ (g3 cap3 : Nat) (we : World), Hid ((W0.alloc (.cells #[.int .i64 s0, .int .i8 s1, .int .i8 s2] 27)).drew.grownBy we (Value.slice X O.length ko).ownBlock) → Hid (we.ownsRow base 27 3 (.slice (some ⟨g3, 0, none⟩) (O.length + 1) cap3) (O.length + 1) (spNews O ++ spNews [(s0, s1, s2)])) → K1 { tmps := #[.pointer (some ⟨K, 0, none⟩), .agg #[.int .i64 s0, .int .i8 s1, .int .i8 s2], undef, .pointer (some ⟨w.heap.size, 0, none⟩), .pointer (some ⟨K, 0, none⟩), .pointer (some ⟨K, 0, none⟩), .pointer (some ⟨K, 0, none⟩), .pointer (some ⟨K, 0, none⟩), .slice X O.length ko, .agg #[.int .i64 s0, .int .i8 s1, .int .i8 s2], .slice (some ⟨w.heap.size + 1, 0, none⟩) 1 1, .slice (some ⟨g3, 0, none⟩) (O.length + 1) cap3, .pointer (some ⟨K, 0, none⟩), .pointer (some ⟨K, 0, none⟩), undef, undef, undef, undef, undef, undef, undef, undef, undef, undef, undef, undef, undef, undef, undef], defers := [] } (we.setCell ⟨K, 0, none⟩ (.slice (some ⟨g3, 0, none⟩) (O.length + 1) cap3)) := by
    intro g3 cap3 we HG HO
    refine hK1 _ _ ?_
    clear hK1 c0 x0 x1 x2
    have hk1 := HKa.out.put0 HG.out HO.out
    have hKe := (HG.out.block K (Array.getElem?_eq_some_iff.1 HKa.out.box).1 (fun e => own_off HKa.out.spots HKa.out.box (by decide) e.symm)).trans HKa.out.box
    have hxb : (we.setCell ⟨K, 0, none⟩ (.slice (some ⟨g3, 0, none⟩) (O.length + 1) cap3)).heap[w.heap.size]? = some (.cells #[.int .i64 s0, .int .i8 s1, .int .i8 s2] 27 (0, 0)) := by
      rw [Below.heap_setCell _ _ _ _ (show w.heap.size ≠ K by omega), HG.out.block w.heap.size (by rw [hsw]; omega) (fun e => by have := HXlt.out _ e.symm; omega)]
      exact (Below.heap_alloc _ _ _ (by omega)).trans HXb.out
    have HB1 : Hid (Below base w (we.setCell ⟨K, 0, none⟩ (.slice (some ⟨g3, 0, none⟩) (O.length + 1) cap3))) := ((HBa.out.mono (by omega)).grown HG.out hsl (fun k e => (HKa.out.spots.lt k e).1)).setCell (p := ⟨K, 0, none⟩) hbK _
    generalize hW1 : we.setCell ⟨K, 0, none⟩ (.slice (some ⟨g3, 0, none⟩) (O.length + 1) cap3) = W1 at *
    have hz1' : w.heap.size < W1.heap.size := (Array.getElem?_eq_some_iff.1 hxb).1
    have X1 : Hid (∀ Z, Below W1.heap.size W1 Z → Z.cell? ⟨w.heap.size, 0, none⟩ = some (.int .i64 s0)) := fun Z hZ => by
      rw [cell_of_row Z w.heap.size 0 _ _ (0, 0) ((hZ.block _ hz1').trans hxb)]; rfl
    have HK1 : Hid (KpAt W1 K base (some ⟨g3, 0, none⟩) Y cap3 kq (O ++ [(s0, s1, s2)]) Q) := hk1
    have C : Hid (∀ Z, Below W1.heap.size W1 Z → Calls Try.prog 17 #[.pointer (some ⟨K, 0, none⟩), .int .i64 s0] Z fun e w' => e = .returned (.int .i64 ((frN Q s0 : Nat) : Int)) ∧ Below Z.heap.size Z w') := fun Z hZ => from_any K base _ Y cap3 kq _ Q s0 Z (HK1.out.keep hZ) HS.out hl
    have CI : Hid (∀ (Z : World) (vb : Nat), Below W1.heap.size W1 Z → W1.heap.size ≤ vb → Z.heap[vb]? = some (.cells #[.int .i64 s0] 3 (0, 0)) → Calls Try.prog 16 #[.slice Y Q.length kq, .int .i64 ((frN Q s0 : Nat) : Int), .slice (some ⟨vb, 0, none⟩) 1 1] Z (InsP base (.slice Y Q.length kq) Q (frN Q s0) s0 Z)) := fun Z vb hZ hvb hv =>
      insert_any base Y kq vb 1 Q (frN Q s0) s0 3 Z (HK1.out.keep hZ).places (by have := hZ.size; omega) (frN_le Q s0) hl hv (fun g hg => by
        have := (HK1.out.places.lt g (by rw [hg]; rfl)).2
        omega)
    have YD : Hid (∀ (Z w9 : World), Below W1.heap.size W1 Z → Z.grownBy w9 (Value.slice Y Q.length kq).ownBlock → w9.heap[K]? = some (.cells #[.slice (some ⟨g3, 0, none⟩) (O ++ [(s0, s1, s2)]).length cap3, .slice Y Q.length kq] 34 (0, 0))) := fun Z w9 hZ hg => (hg.block K (Array.getElem?_eq_some_iff.1 (HK1.out.keep hZ).box).1 (fun e => own_off (HK1.out.keep hZ).places (HK1.out.keep hZ).box (by decide) e.symm)).trans (HK1.out.keep hZ).box
    have FIN : Hid (∀ (Z w9 : World) (A : Option Addr) (c : Nat), Below W1.heap.size W1 Z → Z.grownBy w9 (Value.slice Y Q.length kq).ownBlock → w9.ownsRow base 3 1 (.slice A (Q.length + 1) c) (Q.length + 1) (iVals .i64 (insV Q (frN Q s0) s0)) → KepP K base O Q (s0, s1, s2) w (.returned (.tuple #[])) (w9.setCell ⟨K, 1, none⟩ (.slice A (Q.length + 1) c))) := fun Z w9 A c hZ hg ho => by
      have hbz' : base ≤ W1.heap.size := by omega
      refine ⟨⟨_, _, _, _, (HK1.out.keep hZ).put1 (insV_len s0 (frN_le Q s0)) hg ho⟩, rfl, ?_⟩
      exact (((HB1.out.trans (hZ.mono hbz')).grown hg (by have := hZ.size; omega) (fun k e => ((HK1.out.keep hZ).places.lt k e).1))).setCell (p := ⟨K, 1, none⟩) hbK _
    have k0 := hk1.c1
    have y0 := X1.out _ (Below.refl _ _)
    have k1 := (HK1.out.keep (lb_alloc (Below.refl _ _) (.cells #[.int .i64 s0] 3))).c1
    have y1 := X1.out _ (lb_alloc (Below.refl _ _) (.cells #[.int .i64 s0] 3))
    clear hW1 hk1 hKe hxb HG HO HKa HO2 HNw HBa HXb hsl hsw HK0 HB0 HXlt hbz hz hi hz0 hz1 hz2
    generalize frN Q s0 = f at *
    go_region_law
      (first
        | (go_simp; go_at_call 17; refine (C.out _ (by (first | exact Below.refl _ _ | exact (Below.refl _ _).drew | exact lb_alloc (Below.refl _ _) _ | exact (lb_alloc (Below.refl _ _) _).drew))).mono ?_; rintro e w5 ⟨rfl, hb5⟩; have HZ5 : Hid (Below W1.heap.size W1 w5) := lb_trans (by (first | exact Below.refl _ _ | exact (Below.refl _ _).drew | exact lb_alloc (Below.refl _ _) _ | exact (lb_alloc (Below.refl _ _) _).drew)) hb5; have HZ6 : Hid (Below W1.heap.size W1 (w5.alloc (.cells #[.int .i64 s0] 3))) := lb_alloc HZ5.out _; have hz5 := HZ5.out.size; (try have hv5 : Hid (w5.heap[W1.heap.size]? = some (.cells #[.int .i64 s0] 3 (0, 0))) := (hb5.block W1.heap.size (by simp)).trans (heap_alloc_new _ _)); have k5 := (HK1.out.keep HZ5.out).c1; have y5 := X1.out _ HZ5.out; have k6 := (HK1.out.keep HZ6.out).c1; have y6 := X1.out _ HZ6.out; clear hb5)
        | (go_simp; go_at_call 16; refine Calls.mono (by first | exact CI.out _ _ HZ5.out (Nat.le_refl _) hv5.out | exact CI.out _ _ HZ6.out hz5 (heap_alloc_new _ _)) ?_; rintro e w9 ⟨A9, c9, rfl, ho9, hg9⟩; have HO9 : Hid _ := ho9; have HG9 : Hid _ := hg9; have hK9 := YD.out _ _ (by first | exact HZ5.out | exact HZ6.out) hg9; have z9 : w9.cell? ⟨K, 1, none⟩ = some (.slice Y Q.length kq) := (cell_of_row w9 K 1 _ _ (0, 0) hK9).trans rfl; have f9 : w9.frozen? ⟨K, 1, none⟩ = false := frozen_of_row w9 K 1 _ _ hK9; clear ho9 hg9 hK9))
    all_goals (
      have HE := FIN.out _ _ _ _ (by first | exact HZ5.out | exact HZ6.out) HG9.out HO9.out
      have HE2 : Hid _ := HE
      clear HE HG9 HO9
      go_wp2
      go_end0
      exact ⟨HE2.out.1, rfl, HE2.out.2.2⟩)
  go_region_law
    (refine step_append_lies _ rfl (.tmp 8) (.tmp 10) 22 rfl base 27 iB (.agg #[.int .i64 0, .int .i8 0, .int .i8 0]) 3 16 Try.underlying22 hi hz0 hz1 hz2 rfl (by decide) (.slice X O.length ko) O.length (spNews O) rfl HO2.out ⟨w.heap.size + 1, 0, none⟩ 1 1 [.int .i64 s0, .int .i8 s1, .int .i8 s2] rfl rfl (fun j u hu => World.news_of_block HNw.out j u hu) (sp_oneI s0 s1 s2) (by decide) (by unfold maxLen; omega) (by omega) hsl (W0.heap.size + 1) hsw ?_; intro g3 cap3 we hown hgrow hlie hlt3; have HG3 : Hid _ := hgrow; have HO3 : Hid _ := hown; have hKw := (hgrow.block K (Array.getElem?_eq_some_iff.1 HKa.out.box).1 (fun e => own_off HKa.out.spots HKa.out.box (by decide) e.symm)).trans HKa.out.box; have yD : we.cell? ⟨K, 0, none⟩ = some (.slice X O.length ko) := (cell_of_row we K 0 _ _ (0, 0) hKw).trans rfl; have fD : we.frozen? ⟨K, 0, none⟩ = false := frozen_of_row we K 0 _ _ hKw; clear hown hgrow hlie hKw)
  all_goals exact K2 _ _ _ HG3 HO3

end Go.Proofs.Ytkdafkdogmemcaa
