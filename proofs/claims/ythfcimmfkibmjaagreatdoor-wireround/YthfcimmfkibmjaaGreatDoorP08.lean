/-
  The program takes lists of symbols and relocations of an input.
-/
import Derived.Test.YthfcimmfkibmjaaGreatDoorProg
import Derived.WalkKit
import Derived.WalkSpells
import Derived.WalkLawsBesides
import Derived.RowKit3
import Derived.Below
import Derived.Deep.QuietTactic
import Derived.BigQuiet
import Derived.WalkSmall
import Derived.Laws.Rows
import Derived.Test.YthfcimmfkibmjaaGreatDoorP07
namespace Go.Proofs.YthfcimmfkibmjaaGreatDoor
open Go.RowKit


def sVals (zs : List Sym) : List Value := zs.flatMap fun x => [.string x.1, .int .i8 x.2.1, .int .i64 x.2.2]
theorem sVals_snoc (zs : List Sym) (x : ByteArray) (y z : Int) : sVals (zs ++ [(x, y, z)]) = sVals zs ++ [.string x, .int .i8 y, .int .i64 z] := by simp [sVals]
def rVals (zs : List Rel) : List Value := zs.flatMap fun x => [.int .i64 x.1, .int .i64 x.2]
theorem rVals_snoc (zs : List Rel) (x y : Int) : rVals (zs ++ [(x, y)]) = rVals zs ++ [.int .i64 x, .int .i64 y] := by simp [rVals]

theorem info_takeSyms : ∃ i, Tryz.prog.info? 68 = some i ∧ i.zero = some (.agg #[.string ⟨#[]⟩, .int .i8 0, .int .i64 0]) ∧ i.size = 3 ∧ i.bytes = 32 :=
  ⟨(Tryz.prog.info? 68).get (by kernel_rfl), by kernel_rfl, by kernel_rfl, by kernel_rfl, by kernel_rfl⟩
set_option maxRecDepth 100000 in
set_option maxHeartbeats 2000000 in
theorem takeSyms (m : Int) (hm0 : 0 ≤ m) (hm1 : m ≤ 1048576) (w0 : World) (g : Nat) (A : Option Addr) (c : Nat) (b : List Int) (p : Nat) (w : World) (h : InBy w0 g A c b p w) :
    Calls Tryz.prog 104 #[.pointer (some ⟨g, 0, none⟩), .int .i64 m, .func (.func 105) #[.pointer (some ⟨g, 0, none⟩)] #[]] w (TakesL 68 3 sVals w0 g A c b (tAll b m (tSym b) ⟨p, 0, 0⟩) w) := by
  obtain ⟨i0, hi, hz0, hz1, hz2⟩ := info_takeSyms
  have C := upto_any m hm0 (by omega) w0 g A c b p w h
  have hgw := h.lt
  have hab := h.areB
  by_cases hg : (tCount b m ⟨p, 0, 0⟩).2.bad = 0
  · obtain ⟨r0, r1⟩ := count_range hab hg
    have HA : Hid (tAll b m (tSym b) ⟨p, 0, 0⟩ = tList (tSym b) (tCount b m ⟨p, 0, 0⟩).1.toNat ⟨(tCount b m ⟨p, 0, 0⟩).2.pos, 0, 0⟩) := by
      show _ = _
      unfold tAll
      rw [← plain_tk (plain_count b m) hg]
    have HG : Hid _ := hg
    obtain ⟨n, hn⟩ := Int.eq_ofNat_of_zero_le r0
    go_enter Tryz.func104, Tryz.ntmps104
    go_wp2_with fail
    refine C.mono ?_
    intro r w1 hr
    obtain ⟨rfl, hi1, hb1⟩ := hr.ok hg
    rw [hn]
    rw [hn] at r1
    have hn2 : (tCount b m ⟨p, 0, 0⟩).1.toNat = n := by rw [hn]; rfl
    have HA2 : Hid _ := HA.out
    rw [hn2] at HA2
    have H1 : Hid _ := hi1
    have B1 : Hid (But g w w1) := hb1
    generalize (tCount b m ⟨p, 0, 0⟩).2.pos = q0 at *
    clear hr hi1 hb1 hg HG HA hn hn2 C r0 h
    go_wp2
    go_loopw [23, 10] (fun i s wr => ∃ (k q : Nat) (done : List Sym), i = .int .i64 k ∧ Far (tSym b) n ⟨q0, 0, 0⟩ k done q ∧ wr.ownsRow w.heap.size 68 3 s k (sVals done) ∧ InBy w0 g A c b q wr ∧ But g w wr) (fun i _ _ => n - (intOf i).toNat)
    case atStart => exact ⟨0, q0, [], rfl, far_start _ _ _, World.ownsRow_nil _ _ _ _, H1.out, B1.out⟩
    case round =>
      obtain ⟨k, q, done, rfl, hfar, hown, hin, hbut⟩ := hrel
      have hdl := hfar.1
      have hkn := hfar.2.1
      have HF : Hid (Far (tSym b) n ⟨q0, 0, 0⟩ k done q) := hfar
      have B2 : Hid (But g w wr) := hbut
      have hsz := hbut.2.2.2.1
      obtain ⟨As, ns, cs, rfl⟩ := any_form hown
      clear hfar hbut
      by_cases hlt : k < n
      · have C := rsymbol_any w0 g A c b q wr hin
        by_cases hg : (tSym b ⟨q, 0, 0⟩).2.bad = 0
        · go_wp2_with fail
          refine C.mono ?_
          intro r w2 hr
          obtain ⟨rfl, hin2, hb2⟩ := hr.ok hg
          have HX : Hid _ := far_next (plain_sym b hab) HF.out hlt hg
          have hown2 := row_but hown hgw hb2
          have hsz2 := hb2.2.2.2.1
          clear hr C hown hin
          have HB2 : Hid (But g w w2) := B2.out.trans hb2
          clear hb2 hg
          generalize tSym b ⟨q, 0, 0⟩ = F at *
          obtain ⟨⟨x1, x2, x3⟩, t⟩ := F
          simp only at hin2 HX ⊢
          unfold symV
          have hin3 := hin2.keep (lb_alloc (Below.refl _ _) (.cells #[.string x1, .int .i8 x2, .int .i64 x3] 68))
          have hown3 := hown2.alloc (.cells #[.string x1, .int .i8 x2, .int .i64 x3] 68)
          have HB3 : Hid (But g w (w2.alloc (.cells #[.string x1, .int .i8 x2, .int .i64 x3] 68))) := HB2.out.on (lb_alloc (Below.refl _ _) _)
          have hin4' := hin3.keep (lb_alloc (Below.refl _ _) (.cells #[.string x1, .int .i8 x2, .int .i64 x3] 68))
          have hown4' := hown3.alloc (.cells #[.string x1, .int .i8 x2, .int .i64 x3] 68)
          have HB4 : Hid (But g w ((w2.alloc (.cells #[.string x1, .int .i8 x2, .int .i64 x3] 68)).alloc (.cells #[.string x1, .int .i8 x2, .int .i64 x3] 68))) := HB3.out.on (lb_alloc (Below.refl _ _) _)
          have hc : ∀ j u, ([.string x1, .int .i8 x2, .int .i64 x3] : List Value)[j]? = some u → ((w2.alloc (.cells #[.string x1, .int .i8 x2, .int .i64 x3] 68)).alloc (.cells #[.string x1, .int .i8 x2, .int .i64 x3] 68)).cell? ((⟨w2.heap.size + 1, 0, none⟩ : Addr).add j) = some u := by
            have := new_cells (w2.alloc (.cells #[.string x1, .int .i8 x2, .int .i64 x3] 68)) [.string x1, .int .i8 x2, .int .i64 x3] 68 (by simp)
            rw [show (w2.alloc (.cells #[.string x1, .int .i8 x2, .int .i64 x3] 68)).heap.size = w2.heap.size + 1 by simp] at this
            exact this
          have hone : ∀ u ∈ ([.string x1, .int .i8 x2, .int .i64 x3] : List Value), u.oneCell' = true := by simp [Value.oneCell']
          go_wp2_with (at_builtin; refine wpList_append_own _ rfl (.tmp 33) (.tmp 35) 24 rfl w.heap.size 68 i0 (.agg #[.string ⟨#[]⟩, .int .i8 0, .int .i64 0]) 3 32 Tryz.underlying24 hi hz0 hz1 hz2 rfl (by decide) (.slice As ns cs) k (sVals done) rfl hown4' ⟨w2.heap.size + 1, 0, none⟩ 1 1 [.string x1, .int .i8 x2, .int .i64 x3] rfl rfl hc hone (by unfold maxLen; omega) (by omega) (by simp; omega) ?_; intro v' w' hown' hgrow hnil)
          have hr4 : ∀ j, (Value.slice As ns cs).ownBlock = some j → w.heap.size ≤ j := fun j hj => (hown4'.lt j hj).1
          have hin4 := in_grown hin4' hgrow hr4 hgw
          have hb4 := but_grown HB4.out hgrow hr4
          go_roundw
          case rel => exact ⟨k + 1, _, _, by go_num, HX.out, by rw [show sVals (done ++ [_]) = sVals done ++ [.string x1, .int .i8 x2, .int .i64 x3] from sVals_snoc _ _ _ _]; exact hown', hin4, hb4⟩
          case measure => simp [intOf]; omega
        · go_wp2_with fail
          refine C.mono ?_
          intro r w2 hr
          obtain ⟨_, p2, ⟨y1, y2, y3, rfl⟩, rfl, hin2, hb2⟩ := hr.err hg
          have HX : Hid _ := far_bad HF.out hlt hg
          have HG : Hid _ := hg
          clear hr hg C
          generalize tSym b ⟨q, 0, 0⟩ = F at *
          go_wp2
          go_ret2
          exact takesL_no ((B2.out.trans hb2).on (lb_alloc (Below.refl _ _) _)) (by rw [HA2.out]; exact HX.out) HG.out (hin2.keep (lb_alloc (Below.refl _ _) _))
      · obtain rfl : k = n := by omega
        go_wp2
        go_ret2
        exact takesL_yes B2.out (by rw [HA2.out]; exact far_end HF.out) (by rw [hdl]; exact hown) hin
  · have HA : Hid _ := all_bad (f := tSym b) hg
    have HG : Hid _ := hg
    go_enter Tryz.func104, Tryz.ntmps104
    go_wp2_with fail
    refine C.mono ?_
    intro r w1 hr
    obtain ⟨_, p2, rfl, rfl, hi1, hb1⟩ := hr.err hg
    clear hr hg
    generalize (tCount b m ⟨p, 0, 0⟩).2 = T at *
    go_wp2
    go_ret2
    exact takesL_no hb1 HA.out HG.out hi1

theorem info_takeRels : ∃ i, Tryz.prog.info? 119 = some i ∧ i.zero = some (.agg #[.int .i64 0, .int .i64 0]) ∧ i.size = 2 ∧ i.bytes = 16 :=
  ⟨(Tryz.prog.info? 119).get (by kernel_rfl), by kernel_rfl, by kernel_rfl, by kernel_rfl, by kernel_rfl⟩
set_option maxRecDepth 100000 in
set_option maxHeartbeats 2000000 in
theorem takeRels (m : Int) (hm0 : 0 ≤ m) (hm1 : m ≤ 1048576) (w0 : World) (g : Nat) (A : Option Addr) (c : Nat) (b : List Int) (p : Nat) (w : World) (h : InBy w0 g A c b p w) :
    Calls Tryz.prog 106 #[.pointer (some ⟨g, 0, none⟩), .int .i64 m, .func (.func 107) #[.pointer (some ⟨g, 0, none⟩)] #[]] w (TakesL 119 2 rVals w0 g A c b (tAll b m (tRel b) ⟨p, 0, 0⟩) w) := by
  obtain ⟨i0, hi, hz0, hz1, hz2⟩ := info_takeRels
  have C := upto_any m hm0 (by omega) w0 g A c b p w h
  have hgw := h.lt
  have hab := h.areB
  by_cases hg : (tCount b m ⟨p, 0, 0⟩).2.bad = 0
  · obtain ⟨r0, r1⟩ := count_range hab hg
    have HA : Hid (tAll b m (tRel b) ⟨p, 0, 0⟩ = tList (tRel b) (tCount b m ⟨p, 0, 0⟩).1.toNat ⟨(tCount b m ⟨p, 0, 0⟩).2.pos, 0, 0⟩) := by
      show _ = _
      unfold tAll
      rw [← plain_tk (plain_count b m) hg]
    have HG : Hid _ := hg
    obtain ⟨n, hn⟩ := Int.eq_ofNat_of_zero_le r0
    go_enter Tryz.func106, Tryz.ntmps106
    go_wp2_with fail
    refine C.mono ?_
    intro r w1 hr
    obtain ⟨rfl, hi1, hb1⟩ := hr.ok hg
    rw [hn]
    rw [hn] at r1
    have hn2 : (tCount b m ⟨p, 0, 0⟩).1.toNat = n := by rw [hn]; rfl
    have HA2 : Hid _ := HA.out
    rw [hn2] at HA2
    have H1 : Hid _ := hi1
    have B1 : Hid (But g w w1) := hb1
    generalize (tCount b m ⟨p, 0, 0⟩).2.pos = q0 at *
    clear hr hi1 hb1 hg HG HA hn hn2 C r0 h
    go_wp2
    go_loopw [23, 10] (fun i s wr => ∃ (k q : Nat) (done : List Rel), i = .int .i64 k ∧ Far (tRel b) n ⟨q0, 0, 0⟩ k done q ∧ wr.ownsRow w.heap.size 119 2 s k (rVals done) ∧ InBy w0 g A c b q wr ∧ But g w wr) (fun i _ _ => n - (intOf i).toNat)
    case atStart => exact ⟨0, q0, [], rfl, far_start _ _ _, World.ownsRow_nil _ _ _ _, H1.out, B1.out⟩
    case round =>
      obtain ⟨k, q, done, rfl, hfar, hown, hin, hbut⟩ := hrel
      have hdl := hfar.1
      have hkn := hfar.2.1
      have HF : Hid (Far (tRel b) n ⟨q0, 0, 0⟩ k done q) := hfar
      have B2 : Hid (But g w wr) := hbut
      have hsz := hbut.2.2.2.1
      obtain ⟨As, ns, cs, rfl⟩ := any_form hown
      clear hfar hbut
      by_cases hlt : k < n
      · have C := rreloc_any w0 g A c b q wr hin
        by_cases hg : (tRel b ⟨q, 0, 0⟩).2.bad = 0
        · go_wp2_with fail
          refine C.mono ?_
          intro r w2 hr
          obtain ⟨rfl, hin2, hb2⟩ := hr.ok hg
          have HX : Hid _ := far_next (plain_rel b) HF.out hlt hg
          have hown2 := row_but hown hgw hb2
          have hsz2 := hb2.2.2.2.1
          clear hr C hown hin
          have HB2 : Hid (But g w w2) := B2.out.trans hb2
          clear hb2 hg
          generalize tRel b ⟨q, 0, 0⟩ = F at *
          obtain ⟨⟨x1, x2⟩, t⟩ := F
          simp only at hin2 HX ⊢
          unfold relV
          have hin3 := hin2.keep (lb_alloc (Below.refl _ _) (.cells #[.int .i64 x1, .int .i64 x2] 119))
          have hown3 := hown2.alloc (.cells #[.int .i64 x1, .int .i64 x2] 119)
          have HB3 : Hid (But g w (w2.alloc (.cells #[.int .i64 x1, .int .i64 x2] 119))) := HB2.out.on (lb_alloc (Below.refl _ _) _)
          have hin4' := hin3.keep (lb_alloc (Below.refl _ _) (.cells #[.int .i64 x1, .int .i64 x2] 119))
          have hown4' := hown3.alloc (.cells #[.int .i64 x1, .int .i64 x2] 119)
          have HB4 : Hid (But g w ((w2.alloc (.cells #[.int .i64 x1, .int .i64 x2] 119)).alloc (.cells #[.int .i64 x1, .int .i64 x2] 119))) := HB3.out.on (lb_alloc (Below.refl _ _) _)
          have hc : ∀ j u, ([.int .i64 x1, .int .i64 x2] : List Value)[j]? = some u → ((w2.alloc (.cells #[.int .i64 x1, .int .i64 x2] 119)).alloc (.cells #[.int .i64 x1, .int .i64 x2] 119)).cell? ((⟨w2.heap.size + 1, 0, none⟩ : Addr).add j) = some u := by
            have := new_cells (w2.alloc (.cells #[.int .i64 x1, .int .i64 x2] 119)) [.int .i64 x1, .int .i64 x2] 119 (by simp)
            rw [show (w2.alloc (.cells #[.int .i64 x1, .int .i64 x2] 119)).heap.size = w2.heap.size + 1 by simp] at this
            exact this
          have hone : ∀ u ∈ ([.int .i64 x1, .int .i64 x2] : List Value), u.oneCell' = true := by simp [Value.oneCell']
          go_wp2_with (at_builtin; refine wpList_append_own _ rfl (.tmp 33) (.tmp 35) 25 rfl w.heap.size 119 i0 (.agg #[.int .i64 0, .int .i64 0]) 2 16 Tryz.underlying25 hi hz0 hz1 hz2 rfl (by decide) (.slice As ns cs) k (rVals done) rfl hown4' ⟨w2.heap.size + 1, 0, none⟩ 1 1 [.int .i64 x1, .int .i64 x2] rfl rfl hc hone (by unfold maxLen; omega) (by omega) (by simp; omega) ?_; intro v' w' hown' hgrow hnil)
          have hr4 : ∀ j, (Value.slice As ns cs).ownBlock = some j → w.heap.size ≤ j := fun j hj => (hown4'.lt j hj).1
          have hin4 := in_grown hin4' hgrow hr4 hgw
          have hb4 := but_grown HB4.out hgrow hr4
          go_roundw
          case rel => exact ⟨k + 1, _, _, by go_num, HX.out, by rw [show rVals (done ++ [_]) = rVals done ++ [.int .i64 x1, .int .i64 x2] from rVals_snoc _ _ _]; exact hown', hin4, hb4⟩
          case measure => simp [intOf]; omega
        · go_wp2_with fail
          refine C.mono ?_
          intro r w2 hr
          obtain ⟨_, p2, ⟨y1, y2, rfl⟩, rfl, hin2, hb2⟩ := hr.err hg
          have HX : Hid _ := far_bad HF.out hlt hg
          have HG : Hid _ := hg
          clear hr hg C
          generalize tRel b ⟨q, 0, 0⟩ = F at *
          go_wp2
          go_ret2
          exact takesL_no ((B2.out.trans hb2).on (lb_alloc (Below.refl _ _) _)) (by rw [HA2.out]; exact HX.out) HG.out (hin2.keep (lb_alloc (Below.refl _ _) _))
      · obtain rfl : k = n := by omega
        go_wp2
        go_ret2
        exact takesL_yes B2.out (by rw [HA2.out]; exact far_end HF.out) (by rw [hdl]; exact hown) hin
  · have HA : Hid _ := all_bad (f := tRel b) hg
    have HG : Hid _ := hg
    go_enter Tryz.func106, Tryz.ntmps106
    go_wp2_with fail
    refine C.mono ?_
    intro r w1 hr
    obtain ⟨_, p2, rfl, rfl, hi1, hb1⟩ := hr.err hg
    clear hr hg
    generalize (tCount b m ⟨p, 0, 0⟩).2 = T at *
    go_wp2
    go_ret2
    exact takesL_no hb1 HA.out HG.out hi1

end Go.Proofs.YthfcimmfkibmjaaGreatDoor
