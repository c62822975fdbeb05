/-
  The program takes lists of symbols and relocations of an input. The small functions of package object; no condition. What is asked of an object, answer by answer, as plain mathematics; no Go in sight. The zero value of the array of marks; no condition.
-/
import Derived.Test.YthpkekpojhmaaaaGreatDoorProg
import Derived.WalkKit
import Derived.WalkSpells
import Derived.WalkLawsBesides
import Derived.RowKit3
import Derived.Below
import Derived.Deep.QuietTactic
import Derived.BigQuiet
import Derived.WalkSmall
import Derived.Laws.Rows
import Derived.Test.YthpkekpojhmaaaaGreatDoorP07
import Derived.Test.YthpkekpojhmaaaaGreatDoorP02
import Derived.Test.YthpkekpojhmaaaaGreatDoorP01
namespace Go.Proofs.YthpkekpojhmaaaaGreatDoor
open Go.RowKit


def sVals (zs : List Sym) : List Value := zs.flatMap fun x => [.string x.1, .int .i8 x.2.1, .int .i64 x.2.2]
theorem sVals_snoc (zs : List Sym) (x : ByteArray) (y z : Int) : sVals (zs ++ [(x, y, z)]) = sVals zs ++ [.string x, .int .i8 y, .int .i64 z] := by simp [sVals]
def rVals (zs : List Rel) : List Value := zs.flatMap fun x => [.int .i64 x.1, .int .i64 x.2]
theorem rVals_snoc (zs : List Rel) (x y : Int) : rVals (zs ++ [(x, y)]) = rVals zs ++ [.int .i64 x, .int .i64 y] := by simp [rVals]

theorem info_takeSyms : ∃ i, Tryz.prog.info? 131 = some i ∧ i.zero = some (.agg #[.string ⟨#[]⟩, .int .i8 0, .int .i64 0]) ∧ i.size = 3 ∧ i.bytes = 32 :=
  ⟨(Tryz.prog.info? 131).get (by kernel_rfl), by kernel_rfl, by kernel_rfl, by kernel_rfl, by kernel_rfl⟩
set_option maxRecDepth 100000 in
set_option maxHeartbeats 2000000 in
theorem takeSyms (m : Int) (hm0 : 0 ≤ m) (hm1 : m ≤ 1048576) (w0 : World) (g : Nat) (A : Option Addr) (c : Nat) (b : List Int) (p : Nat) (w : World) (h : InBy w0 g A c b p w) :
    Calls Tryz.prog 133 #[.pointer (some ⟨g, 0, none⟩), .int .i64 m, .func (.func 134) #[.pointer (some ⟨g, 0, none⟩)] #[]] w (TakesL 131 3 sVals w0 g A c b (tAll b m (tSym b) ⟨p, 0, 0⟩) w) := by
  obtain ⟨i0, hi, hz0, hz1, hz2⟩ := info_takeSyms
  have C := upto_any m hm0 (by omega) w0 g A c b p w h
  have hgw := h.lt
  have hab := h.areB
  by_cases hg : (tCount b m ⟨p, 0, 0⟩).2.bad = 0
  · obtain ⟨r0, r1⟩ := count_range hab hg
    have HA : Hid (tAll b m (tSym b) ⟨p, 0, 0⟩ = tList (tSym b) (tCount b m ⟨p, 0, 0⟩).1.toNat ⟨(tCount b m ⟨p, 0, 0⟩).2.pos, 0, 0⟩) := by
      show _ = _
      unfold tAll
      rw [← plain_tk (plain_count b m) hg]
    have HG : Hid _ := hg
    obtain ⟨n, hn⟩ := Int.eq_ofNat_of_zero_le r0
    go_enter Tryz.func133, Tryz.ntmps133
    go_wp2_with fail
    refine C.mono ?_
    intro r w1 hr
    obtain ⟨rfl, hi1, hb1⟩ := hr.ok hg
    rw [hn]
    rw [hn] at r1
    have hn2 : (tCount b m ⟨p, 0, 0⟩).1.toNat = n := by rw [hn]; rfl
    have HA2 : Hid _ := HA.out
    rw [hn2] at HA2
    have H1 : Hid _ := hi1
    have B1 : Hid (But g w w1) := hb1
    generalize (tCount b m ⟨p, 0, 0⟩).2.pos = q0 at *
    clear hr hi1 hb1 hg HG HA hn hn2 C r0 h
    go_wp2
    go_loopw [23, 10] (fun i s wr => ∃ (k q : Nat) (done : List Sym), i = .int .i64 k ∧ Far (tSym b) n ⟨q0, 0, 0⟩ k done q ∧ wr.ownsRow w.heap.size 131 3 s k (sVals done) ∧ InBy w0 g A c b q wr ∧ But g w wr) (fun i _ _ => n - (intOf i).toNat)
    case atStart => exact ⟨0, q0, [], rfl, far_start _ _ _, World.ownsRow_nil _ _ _ _, H1.out, B1.out⟩
    case round =>
      obtain ⟨k, q, done, rfl, hfar, hown, hin, hbut⟩ := hrel
      have hdl := hfar.1
      have hkn := hfar.2.1
      have HF : Hid (Far (tSym b) n ⟨q0, 0, 0⟩ k done q) := hfar
      have B2 : Hid (But g w wr) := hbut
      have hsz := hbut.2.2.2.1
      obtain ⟨As, ns, cs, rfl⟩ := any_form hown
      clear hfar hbut
      by_cases hlt : k < n
      · have C := rsymbol_any w0 g A c b q wr hin
        by_cases hg : (tSym b ⟨q, 0, 0⟩).2.bad = 0
        · go_wp2_with fail
          refine C.mono ?_
          intro r w2 hr
          obtain ⟨rfl, hin2, hb2⟩ := hr.ok hg
          have HX : Hid _ := far_next (plain_sym b hab) HF.out hlt hg
          have hown2 := row_but hown hgw hb2
          have hsz2 := hb2.2.2.2.1
          clear hr C hown hin
          have HB2 : Hid (But g w w2) := B2.out.trans hb2
          clear hb2 hg
          generalize tSym b ⟨q, 0, 0⟩ = F at *
          obtain ⟨⟨x1, x2, x3⟩, t⟩ := F
          simp only at hin2 HX ⊢
          unfold symV
          have hin3 := hin2.keep (lb_alloc (Below.refl _ _) (.cells #[.string x1, .int .i8 x2, .int .i64 x3] 131))
          have hown3 := hown2.alloc (.cells #[.string x1, .int .i8 x2, .int .i64 x3] 131)
          have HB3 : Hid (But g w (w2.alloc (.cells #[.string x1, .int .i8 x2, .int .i64 x3] 131))) := HB2.out.on (lb_alloc (Below.refl _ _) _)
          have hin4' := hin3.keep (lb_alloc (Below.refl _ _) (.cells #[.string x1, .int .i8 x2, .int .i64 x3] 131))
          have hown4' := hown3.alloc (.cells #[.string x1, .int .i8 x2, .int .i64 x3] 131)
          have HB4 : Hid (But g w ((w2.alloc (.cells #[.string x1, .int .i8 x2, .int .i64 x3] 131)).alloc (.cells #[.string x1, .int .i8 x2, .int .i64 x3] 131))) := HB3.out.on (lb_alloc (Below.refl _ _) _)
          have hc : ∀ j u, ([.string x1, .int .i8 x2, .int .i64 x3] : List Value)[j]? = some u → ((w2.alloc (.cells #[.string x1, .int .i8 x2, .int .i64 x3] 131)).alloc (.cells #[.string x1, .int .i8 x2, .int .i64 x3] 131)).cell? ((⟨w2.heap.size + 1, 0, none⟩ : Addr).add j) = some u := by
            have := new_cells (w2.alloc (.cells #[.string x1, .int .i8 x2, .int .i64 x3] 131)) [.string x1, .int .i8 x2, .int .i64 x3] 131 (by simp)
            rw [show (w2.alloc (.cells #[.string x1, .int .i8 x2, .int .i64 x3] 131)).heap.size = w2.heap.size + 1 by simp] at this
            exact this
          have hone : ∀ u ∈ ([.string x1, .int .i8 x2, .int .i64 x3] : List Value), u.oneCell' = true := by simp [Value.oneCell']
          go_wp2_with (at_builtin; refine wpList_append_own _ rfl (.tmp 33) (.tmp 35) 72 rfl w.heap.size 131 i0 (.agg #[.string ⟨#[]⟩, .int .i8 0, .int .i64 0]) 3 32 Tryz.underlying72 hi hz0 hz1 hz2 rfl (by decide) (.slice As ns cs) k (sVals done) rfl hown4' ⟨w2.heap.size + 1, 0, none⟩ 1 1 [.string x1, .int .i8 x2, .int .i64 x3] rfl rfl hc hone (by unfold maxLen; omega) (by omega) (by simp; omega) ?_; intro v' w' hown' hgrow hnil)
          have hr4 : ∀ j, (Value.slice As ns cs).ownBlock = some j → w.heap.size ≤ j := fun j hj => (hown4'.lt j hj).1
          have hin4 := in_grown hin4' hgrow hr4 hgw
          have hb4 := but_grown HB4.out hgrow hr4
          go_roundw
          case rel => exact ⟨k + 1, _, _, by go_num, HX.out, by rw [show sVals (done ++ [_]) = sVals done ++ [.string x1, .int .i8 x2, .int .i64 x3] from sVals_snoc _ _ _ _]; exact hown', hin4, hb4⟩
          case measure => simp [intOf]; omega
        · go_wp2_with fail
          refine C.mono ?_
          intro r w2 hr
          obtain ⟨_, p2, ⟨y1, y2, y3, rfl⟩, rfl, hin2, hb2⟩ := hr.err hg
          have HX : Hid _ := far_bad HF.out hlt hg
          have HG : Hid _ := hg
          clear hr hg C
          generalize tSym b ⟨q, 0, 0⟩ = F at *
          go_wp2
          go_ret2
          exact takesL_no ((B2.out.trans hb2).on (lb_alloc (Below.refl _ _) _)) (by rw [HA2.out]; exact HX.out) HG.out (hin2.keep (lb_alloc (Below.refl _ _) _))
      · obtain rfl : k = n := by omega
        go_wp2
        go_ret2
        exact takesL_yes B2.out (by rw [HA2.out]; exact far_end HF.out) (by rw [hdl]; exact hown) hin
  · have HA : Hid _ := all_bad (f := tSym b) hg
    have HG : Hid _ := hg
    go_enter Tryz.func133, Tryz.ntmps133
    go_wp2_with fail
    refine C.mono ?_
    intro r w1 hr
    obtain ⟨_, p2, rfl, rfl, hi1, hb1⟩ := hr.err hg
    clear hr hg
    generalize (tCount b m ⟨p, 0, 0⟩).2 = T at *
    go_wp2
    go_ret2
    exact takesL_no hb1 HA.out HG.out hi1

theorem info_takeRels : ∃ i, Tryz.prog.info? 83 = some i ∧ i.zero = some (.agg #[.int .i64 0, .int .i64 0]) ∧ i.size = 2 ∧ i.bytes = 16 :=
  ⟨(Tryz.prog.info? 83).get (by kernel_rfl), by kernel_rfl, by kernel_rfl, by kernel_rfl, by kernel_rfl⟩
set_option maxRecDepth 100000 in
set_option maxHeartbeats 2000000 in
theorem takeRels (m : Int) (hm0 : 0 ≤ m) (hm1 : m ≤ 1048576) (w0 : World) (g : Nat) (A : Option Addr) (c : Nat) (b : List Int) (p : Nat) (w : World) (h : InBy w0 g A c b p w) :
    Calls Tryz.prog 135 #[.pointer (some ⟨g, 0, none⟩), .int .i64 m, .func (.func 136) #[.pointer (some ⟨g, 0, none⟩)] #[]] w (TakesL 83 2 rVals w0 g A c b (tAll b m (tRel b) ⟨p, 0, 0⟩) w) := by
  obtain ⟨i0, hi, hz0, hz1, hz2⟩ := info_takeRels
  have C := upto_any m hm0 (by omega) w0 g A c b p w h
  have hgw := h.lt
  have hab := h.areB
  by_cases hg : (tCount b m ⟨p, 0, 0⟩).2.bad = 0
  · obtain ⟨r0, r1⟩ := count_range hab hg
    have HA : Hid (tAll b m (tRel b) ⟨p, 0, 0⟩ = tList (tRel b) (tCount b m ⟨p, 0, 0⟩).1.toNat ⟨(tCount b m ⟨p, 0, 0⟩).2.pos, 0, 0⟩) := by
      show _ = _
      unfold tAll
      rw [← plain_tk (plain_count b m) hg]
    have HG : Hid _ := hg
    obtain ⟨n, hn⟩ := Int.eq_ofNat_of_zero_le r0
    go_enter Tryz.func135, Tryz.ntmps135
    go_wp2_with fail
    refine C.mono ?_
    intro r w1 hr
    obtain ⟨rfl, hi1, hb1⟩ := hr.ok hg
    rw [hn]
    rw [hn] at r1
    have hn2 : (tCount b m ⟨p, 0, 0⟩).1.toNat = n := by rw [hn]; rfl
    have HA2 : Hid _ := HA.out
    rw [hn2] at HA2
    have H1 : Hid _ := hi1
    have B1 : Hid (But g w w1) := hb1
    generalize (tCount b m ⟨p, 0, 0⟩).2.pos = q0 at *
    clear hr hi1 hb1 hg HG HA hn hn2 C r0 h
    go_wp2
    go_loopw [23, 10] (fun i s wr => ∃ (k q : Nat) (done : List Rel), i = .int .i64 k ∧ Far (tRel b) n ⟨q0, 0, 0⟩ k done q ∧ wr.ownsRow w.heap.size 83 2 s k (rVals done) ∧ InBy w0 g A c b q wr ∧ But g w wr) (fun i _ _ => n - (intOf i).toNat)
    case atStart => exact ⟨0, q0, [], rfl, far_start _ _ _, World.ownsRow_nil _ _ _ _, H1.out, B1.out⟩
    case round =>
      obtain ⟨k, q, done, rfl, hfar, hown, hin, hbut⟩ := hrel
      have hdl := hfar.1
      have hkn := hfar.2.1
      have HF : Hid (Far (tRel b) n ⟨q0, 0, 0⟩ k done q) := hfar
      have B2 : Hid (But g w wr) := hbut
      have hsz := hbut.2.2.2.1
      obtain ⟨As, ns, cs, rfl⟩ := any_form hown
      clear hfar hbut
      by_cases hlt : k < n
      · have C := rreloc_any w0 g A c b q wr hin
        by_cases hg : (tRel b ⟨q, 0, 0⟩).2.bad = 0
        · go_wp2_with fail
          refine C.mono ?_
          intro r w2 hr
          obtain ⟨rfl, hin2, hb2⟩ := hr.ok hg
          have HX : Hid _ := far_next (plain_rel b) HF.out hlt hg
          have hown2 := row_but hown hgw hb2
          have hsz2 := hb2.2.2.2.1
          clear hr C hown hin
          have HB2 : Hid (But g w w2) := B2.out.trans hb2
          clear hb2 hg
          generalize tRel b ⟨q, 0, 0⟩ = F at *
          obtain ⟨⟨x1, x2⟩, t⟩ := F
          simp only at hin2 HX ⊢
          unfold relV
          have hin3 := hin2.keep (lb_alloc (Below.refl _ _) (.cells #[.int .i64 x1, .int .i64 x2] 83))
          have hown3 := hown2.alloc (.cells #[.int .i64 x1, .int .i64 x2] 83)
          have HB3 : Hid (But g w (w2.alloc (.cells #[.int .i64 x1, .int .i64 x2] 83))) := HB2.out.on (lb_alloc (Below.refl _ _) _)
          have hin4' := hin3.keep (lb_alloc (Below.refl _ _) (.cells #[.int .i64 x1, .int .i64 x2] 83))
          have hown4' := hown3.alloc (.cells #[.int .i64 x1, .int .i64 x2] 83)
          have HB4 : Hid (But g w ((w2.alloc (.cells #[.int .i64 x1, .int .i64 x2] 83)).alloc (.cells #[.int .i64 x1, .int .i64 x2] 83))) := HB3.out.on (lb_alloc (Below.refl _ _) _)
          have hc : ∀ j u, ([.int .i64 x1, .int .i64 x2] : List Value)[j]? = some u → ((w2.alloc (.cells #[.int .i64 x1, .int .i64 x2] 83)).alloc (.cells #[.int .i64 x1, .int .i64 x2] 83)).cell? ((⟨w2.heap.size + 1, 0, none⟩ : Addr).add j) = some u := by
            have := new_cells (w2.alloc (.cells #[.int .i64 x1, .int .i64 x2] 83)) [.int .i64 x1, .int .i64 x2] 83 (by simp)
            rw [show (w2.alloc (.cells #[.int .i64 x1, .int .i64 x2] 83)).heap.size = w2.heap.size + 1 by simp] at this
            exact this
          have hone : ∀ u ∈ ([.int .i64 x1, .int .i64 x2] : List Value), u.oneCell' = true := by simp [Value.oneCell']
          go_wp2_with (at_builtin; refine wpList_append_own _ rfl (.tmp 33) (.tmp 35) 73 rfl w.heap.size 83 i0 (.agg #[.int .i64 0, .int .i64 0]) 2 16 Tryz.underlying73 hi hz0 hz1 hz2 rfl (by decide) (.slice As ns cs) k (rVals done) rfl hown4' ⟨w2.heap.size + 1, 0, none⟩ 1 1 [.int .i64 x1, .int .i64 x2] rfl rfl hc hone (by unfold maxLen; omega) (by omega) (by simp; omega) ?_; intro v' w' hown' hgrow hnil)
          have hr4 : ∀ j, (Value.slice As ns cs).ownBlock = some j → w.heap.size ≤ j := fun j hj => (hown4'.lt j hj).1
          have hin4 := in_grown hin4' hgrow hr4 hgw
          have hb4 := but_grown HB4.out hgrow hr4
          go_roundw
          case rel => exact ⟨k + 1, _, _, by go_num, HX.out, by rw [show rVals (done ++ [_]) = rVals done ++ [.int .i64 x1, .int .i64 x2] from rVals_snoc _ _ _]; exact hown', hin4, hb4⟩
          case measure => simp [intOf]; omega
        · go_wp2_with fail
          refine C.mono ?_
          intro r w2 hr
          obtain ⟨_, p2, ⟨y1, y2, rfl⟩, rfl, hin2, hb2⟩ := hr.err hg
          have HX : Hid _ := far_bad HF.out hlt hg
          have HG : Hid _ := hg
          clear hr hg C
          generalize tRel b ⟨q, 0, 0⟩ = F at *
          go_wp2
          go_ret2
          exact takesL_no ((B2.out.trans hb2).on (lb_alloc (Below.refl _ _) _)) (by rw [HA2.out]; exact HX.out) HG.out (hin2.keep (lb_alloc (Below.refl _ _) _))
      · obtain rfl : k = n := by omega
        go_wp2
        go_ret2
        exact takesL_yes B2.out (by rw [HA2.out]; exact far_end HF.out) (by rw [hdl]; exact hown) hin
  · have HA : Hid _ := all_bad (f := tRel b) hg
    have HG : Hid _ := hg
    go_enter Tryz.func135, Tryz.ntmps135
    go_wp2_with fail
    refine C.mono ?_
    intro r w1 hr
    obtain ⟨_, p2, rfl, rfl, hi1, hb1⟩ := hr.err hg
    clear hr hg
    generalize (tCount b m ⟨p, 0, 0⟩).2 = T at *
    go_wp2
    go_ret2
    exact takesL_no hb1 HA.out HG.out hi1


end Go.Proofs.YthpkekpojhmaaaaGreatDoor

namespace Go.Proofs.YthpkekpojhmaaaaGreatDoor
open Go.RowKit

/-- A number, or 0. -/
def rfs (b : Bool) (e : Int) : Int := match b with
  | true => e
  | false => 0
theorem refuse_yes (e n : Int) (w : World) : Calls Tryz.prog 151 #[.bool true, .int .i64 e, .int .i64 n] w fun r w' => r = .returned (.tuple #[.int .i64 (rfs true e), .int .i64 (rfs true n)]) ∧ w' = w := by
  go_enter Tryz.func151, Tryz.ntmps151
  go_wp2
  go_ret2
  exact ⟨rfl, rfl⟩
theorem refuse_no (e n : Int) (w : World) : Calls Tryz.prog 151 #[.bool false, .int .i64 e, .int .i64 n] w fun r w' => r = .returned (.tuple #[.int .i64 (rfs false e), .int .i64 (rfs false n)]) ∧ w' = w := by
  go_enter Tryz.func151, Tryz.ntmps151
  go_wp2
  go_ret2
  exact ⟨rfl, rfl⟩
theorem fits_any (a n : Int) (ha : -9223372036854775808 ≤ a) (ha2 : a ≤ 9223372036854775807) (w : World) : Calls Tryz.prog 157 #[.int .i64 a, .int .i64 n] w fun r w' => r = .returned (.bool (decide (0 ≤ a ∧ n ≤ 4096 - a))) ∧ w' = w := by
  by_cases h0 : 0 ≤ a
  · by_cases h1 : n ≤ 4096 - a
    · rw [decide_eq_true ⟨h0, h1⟩]
      go_enter Tryz.func157, Tryz.ntmps157
      go_wp2
      go_ret
      exact ⟨by first | rfl | (simp [*]; done), rfl⟩
    · rw [decide_eq_false (by omega)]
      go_enter Tryz.func157, Tryz.ntmps157
      go_wp2
      go_ret
      exact ⟨by first | rfl | (simp [*]; done), rfl⟩
  · rw [decide_eq_false (by omega)]
    go_enter Tryz.func157, Tryz.ntmps157
    go_wp2
    go_ret
    exact ⟨by first | rfl | (simp [*]; done), rfl⟩
def lastP (kd : Int) (nc : Nat) : Int := if kd = 3 then 0 else nc
theorem last_any (nm : ByteArray) (dA kd : Int) (A1 A2 A3 A4 : Option Addr) (nc c1 nd c2 ns c3 nr c4 : Nat) (w : World) : Calls Tryz.prog 179 #[.agg #[.string nm, .slice A1 nc c1, .int .i64 dA, .slice A2 nd c2, .slice A3 ns c3, .slice A4 nr c4], .int .i8 kd] w fun r w' => r = .returned (.int .i64 (lastP kd nc)) ∧ Below w.heap.size w w' := by
  cases h : (kd == 3) with
  | true =>
    rw [show lastP kd nc = 0 by unfold lastP; rw [if_pos (by simpa using h)]]
    go_enter Tryz.func179, Tryz.ntmps179
    go_wp2
    go_ret
    exact ⟨rfl, lb_alloc (Below.refl _ _) _⟩
  | false =>
    rw [show lastP kd nc = nc by unfold lastP; rw [if_neg (by simpa using h)]]
    go_enter Tryz.func179, Tryz.ntmps179
    go_wp2
    go_ret
    exact ⟨rfl, lb_alloc (Below.refl _ _) _⟩





end Go.Proofs.YthpkekpojhmaaaaGreatDoor

namespace Go.Proofs.YthpkekpojhmaaaaGreatDoor
open Go.RowKit

def ansQ (nm : ByteArray) (code : List Int) (dA : Int) (nd : Nat) (ss : List Sym) (rs : List Rel) : Nat → Int × Int
  | 0 => (rfs (!nameOK nm) 20, rfs (!nameOK nm) (-1))
  | 1 => (rfs (decide (16384 < code.length)) 21, rfs (decide (16384 < code.length)) (-1))
  | 2 => (rfs (decide (256 < ss.length)) 21, rfs (decide (256 < ss.length)) (-2))
  | 3 => (rfs (decide (code.length < rs.length)) 21, rfs (decide (code.length < rs.length)) (-3))
  | 4 => (rfs (!decide (0 ≤ dA ∧ (nd : Int) ≤ 4096 - dA)) 25, rfs (!decide (0 ≤ dA ∧ (nd : Int) ≤ 4096 - dA)) (-1))
  | 5 => symC ss code.length
  | 6 => relC rs code ss.length
  | 7 => codC code
  | _ => (0, 0)
theorem rfs_zero {b : Bool} {e : Int} (he : ¬ e = 0) (h : rfs b e = 0) : b = false := by
  cases b with
  | false => rfl
  | true => exact absurd h he
theorem rfs_not {b : Bool} {e : Int} (h : ¬ rfs b e = 0) : b = true := by
  cases b with
  | false => exact absurd rfl h
  | true => rfl
theorem z0 {nm : ByteArray} {code : List Int} {dA : Int} {nd : Nat} {ss : List Sym} {rs : List Rel} (h : (ansQ nm code dA nd ss rs 0).1 = 0) : ¬ nameOK nm = false := by
  have := rfs_zero (by omega) h
  simpa using this
theorem z1 {nm : ByteArray} {code : List Int} {dA : Int} {nd : Nat} {ss : List Sym} {rs : List Rel} (h : (ansQ nm code dA nd ss rs 1).1 = 0) : ¬ 16384 < code.length := of_decide_eq_false (rfs_zero (by omega) h)
theorem z2 {nm : ByteArray} {code : List Int} {dA : Int} {nd : Nat} {ss : List Sym} {rs : List Rel} (h : (ansQ nm code dA nd ss rs 2).1 = 0) : ¬ 256 < ss.length := of_decide_eq_false (rfs_zero (by omega) h)
theorem z3 {nm : ByteArray} {code : List Int} {dA : Int} {nd : Nat} {ss : List Sym} {rs : List Rel} (h : (ansQ nm code dA nd ss rs 3).1 = 0) : ¬ code.length < rs.length := of_decide_eq_false (rfs_zero (by omega) h)
theorem z4 {nm : ByteArray} {code : List Int} {dA : Int} {nd : Nat} {ss : List Sym} {rs : List Rel} (h : (ansQ nm code dA nd ss rs 4).1 = 0) : ¬ (dA < 0 ∨ 4096 < dA ∨ 4096 - dA < (nd : Int)) := by
  have := rfs_zero (by omega) h
  rw [Bool.not_eq_false'] at this
  have := of_decide_eq_true this
  omega
theorem cod_zero {code : List Int} (h : (codC code).1 = 0) : codC code = (0, 0) := by
  unfold codC at h ⊢
  split at h
  · next h1 => rw [if_pos h1]
  · omega
theorem size_zero {nm : ByteArray} {code : List Int} {dA : Int} {nd : Nat} {ss : List Sym} {rs : List Rel} {k : Nat} (h : ∀ j, j < k → (ansQ nm code dA nd ss rs j).1 = 0) (hk : 5 ≤ k) : sizeC (nameOK nm) code.length ss.length rs.length nd dA = (0, 0) := by
  unfold sizeC; rw [if_neg (z0 (h 0 (by omega))), if_neg (z1 (h 1 (by omega))), if_neg (z2 (h 2 (by omega))), if_neg (z3 (h 3 (by omega))), if_neg (z4 (h 4 (by omega)))]
theorem ans_hit {nm : ByteArray} {code : List Int} {dA : Int} {nd : Nat} {ss : List Sym} {rs : List Rel} : ∀ (k : Nat), k < 8 → (∀ j, j < k → (ansQ nm code dA nd ss rs j).1 = 0) → ¬ (ansQ nm code dA nd ss rs k).1 = 0 → checkC nm code dA nd ss rs = ansQ nm code dA nd ss rs k
  | 0, _, _, e => by
    have hb : (!nameOK nm) = true := rfs_not e
    have hn : nameOK nm = false := by simpa using hb
    have hs : sizeC (nameOK nm) code.length ss.length rs.length nd dA = (20, -1) := by unfold sizeC; rw [if_pos hn]
    unfold checkC ansQ
    rw [hs, if_pos (by simp), hb]; rfl
  | 1, _, h, e => by
    have hb := rfs_not e
    have hs : sizeC (nameOK nm) code.length ss.length rs.length nd dA = (21, -1) := by unfold sizeC; rw [if_neg (z0 (h 0 (by omega))), if_pos (of_decide_eq_true hb)]
    unfold checkC ansQ
    rw [hs, if_pos (by simp), hb]; rfl
  | 2, _, h, e => by
    have hb := rfs_not e
    have hs : sizeC (nameOK nm) code.length ss.length rs.length nd dA = (21, -2) := by unfold sizeC; rw [if_neg (z0 (h 0 (by omega))), if_neg (z1 (h 1 (by omega))), if_pos (of_decide_eq_true hb)]
    unfold checkC ansQ
    rw [hs, if_pos (by simp), hb]; rfl
  | 3, _, h, e => by
    have hb := rfs_not e
    have hs : sizeC (nameOK nm) code.length ss.length rs.length nd dA = (21, -3) := by unfold sizeC; rw [if_neg (z0 (h 0 (by omega))), if_neg (z1 (h 1 (by omega))), if_neg (z2 (h 2 (by omega))), if_pos (of_decide_eq_true hb)]
    unfold checkC ansQ
    rw [hs, if_pos (by simp), hb]; rfl
  | 4, _, h, e => by
    have hb := rfs_not e
    have hx : dA < 0 ∨ 4096 < dA ∨ 4096 - dA < (nd : Int) := by
      have hb' := hb
      rw [Bool.not_eq_true'] at hb'
      have := of_decide_eq_false hb'
      omega
    have hs : sizeC (nameOK nm) code.length ss.length rs.length nd dA = (25, -1) := by unfold sizeC; rw [if_neg (z0 (h 0 (by omega))), if_neg (z1 (h 1 (by omega))), if_neg (z2 (h 2 (by omega))), if_neg (z3 (h 3 (by omega))), if_pos hx]
    unfold checkC ansQ
    rw [hs, if_pos (by simp), hb]; rfl
  | 5, _, h, e => by
    have hs := size_zero (nm := nm) (nd := nd) (dA := dA) h (by omega)
    unfold checkC
    rw [hs, if_neg (by simp), if_pos (show ¬ (symC ss code.length).1 = 0 from e)]; rfl
  | 6, _, h, e => by
    have hs := size_zero (nm := nm) (nd := nd) (dA := dA) h (by omega)
    unfold checkC
    rw [hs, if_neg (by simp), if_neg (by simpa using (show (symC ss code.length).1 = 0 from h 5 (by omega))), if_pos (show ¬ (relC rs code ss.length).1 = 0 from e)]; rfl
  | 7, _, h, _ => by
    have hs := size_zero (nm := nm) (nd := nd) (dA := dA) h (by omega)
    unfold checkC
    rw [hs, if_neg (by simp), if_neg (by simpa using (show (symC ss code.length).1 = 0 from h 5 (by omega))), if_neg (by simpa using (show (relC rs code ss.length).1 = 0 from h 6 (by omega)))]; rfl
  | k + 8, hk, _, _ => by omega
theorem ans_none {nm : ByteArray} {code : List Int} {dA : Int} {nd : Nat} {ss : List Sym} {rs : List Rel} (h : ∀ j, j < 8 → (ansQ nm code dA nd ss rs j).1 = 0) : checkC nm code dA nd ss rs = (0, 0) := by
  have hs := size_zero (nm := nm) (nd := nd) (dA := dA) h (by omega)
  unfold checkC
  rw [hs, if_neg (by simp), if_neg (by simpa using (show (symC ss code.length).1 = 0 from h 5 (by omega))), if_neg (by simpa using (show (relC rs code ss.length).1 = 0 from h 6 (by omega)))]
  exact cod_zero (h 7 (by omega))





end Go.Proofs.YthpkekpojhmaaaaGreatDoor

namespace Go.Proofs.YthpkekpojhmaaaaGreatDoor
open Go.RowKit

/-- So many bools, each false. -/
def chkF : List Value → Nat → Bool
  | [], 0 => true
  | (.bool false) :: l, n + 1 => chkF l n
  | _, _ => false
theorem chkF_ok : ∀ (l : List Value) (n : Nat), chkF l n = true → l.length = n ∧ ∀ i, i < n → l[i]? = some (.bool false)
  | [], 0, _ => ⟨rfl, fun i h => by omega⟩
  | (.bool false) :: l, n + 1, h => by
    obtain ⟨h1, h2⟩ := chkF_ok l n h
    refine ⟨by simp [h1], fun i hi => ?_⟩
    cases i with
    | zero => rfl
    | succ i => simpa using h2 i (by omega)
def zeroIs (o : Option TypeInfo) (n : Nat) : Bool := match o with
  | some i => (match i.zero with
    | some (.agg cs) => chkF cs.toList n
    | _ => false)
  | none => false
theorem zero73_ok : zeroIs (Tryz.prog.info? 263) 16384 = true := by kernel_rfl
theorem zero73 : ∃ cs : Array Value, cs.size = 16384 ∧ (∀ i, i < 16384 → cs[i]? = some (.bool false)) ∧ ∀ w : World, (zeroValue 263).run Tryz.prog w = .ok (.agg cs) w := by
  have h := zero73_ok
  unfold zeroIs at h
  cases hi : Tryz.prog.info? 263 with
  | none => rw [hi] at h; cases h
  | some i =>
    rw [hi] at h
    simp only [] at h
    cases hz : i.zero with
    | none => rw [hz] at h; cases h
    | some v =>
      rw [hz] at h
      cases v with
      | agg cs =>
        simp only [] at h
        obtain ⟨h1, h2⟩ := chkF_ok _ _ h
        refine ⟨cs, by simpa using h1, fun i hi => by simpa using h2 i hi, fun w => ?_⟩
        simp [zeroValue, typeInfo, hi, hz]
      | _ => cases h





end Go.Proofs.YthpkekpojhmaaaaGreatDoor
