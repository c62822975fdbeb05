/-
  The program takes an image of bytes.
-/
import Derived.Test.YtfaekkbblpfbhaaDoorProg
import Derived.WalkKit
import Derived.WalkSpells
import Derived.WalkLawsBesides
import Derived.RowKit3
import Derived.Below
import Derived.Deep.QuietTactic
import Derived.BigQuiet
import Derived.WalkSmall
import Derived.Laws.Rows
import Derived.Test.YtfaekkbblpfbhaaDoorIr22
import Derived.Test.YtfaekkbblpfbhaaDoorIr33
import Derived.Deep.DeepCutAuto
import Derived.Deep.RegionHeld3
import Derived.Deep.RegionLaw
import Derived.Deep.AppendLies
namespace Go.Proofs.YtfaekkbblpfbhaaDoor
open Go.RowKit

theorem infoW : ∃ i, Tryd.prog.info? 61 = some i ∧ i.zero = some (.int .u32 0) ∧ i.size = 1 ∧ i.bytes = 4 :=
  ⟨(Tryd.prog.info? 61).get (by kernel_rfl), by kernel_rfl, by kernel_rfl, by kernel_rfl, by kernel_rfl⟩
theorem infoL : ∃ i, Tryd.prog.info? 2 = some i ∧ i.zero = some (.int .i64 0) ∧ i.size = 1 ∧ i.bytes = 8 :=
  ⟨(Tryd.prog.info? 2).get (by kernel_rfl), by kernel_rfl, by kernel_rfl, by kernel_rfl, by kernel_rfl⟩
theorem wrap_s32b {x : Int} (h0 : 0 ≤ x) (h1 : x < 4294967296) : wrap64 (s32 x) = s32 x := by
  unfold wrap64 s32
  split <;> omega
theorem tnum_ok {w0 : World} {ga gb gn gm : Nat} {A : Option Addr} {c : Nat} {b : List Int} {p : Nat} (hg : (tFour b ⟨p, 0, 0⟩).2.bad = 0) (w : World) (h : TkBy w0 ga gb gn gm A c b p w) : Calls Tryd.prog 94 #[.pointer (some ⟨gn, 0, none⟩)] w fun r w' => r = .returned (.int .u32 (tFour b ⟨p, 0, 0⟩).1) ∧ TkBy w0 ga gb gn gm A c b (tFour b ⟨p, 0, 0⟩).2.pos w' ∧ But ga w w' :=
  (tnum_any w0 ga gb gn gm A c b p w h).mono fun _ _ k => k.ok hg
theorem tnum_no {w0 : World} {ga gb gn gm : Nat} {A : Option Addr} {c : Nat} {b : List Int} {p : Nat} (hg : ¬ (tFour b ⟨p, 0, 0⟩).2.bad = 0) (w : World) (h : TkBy w0 ga gb gn gm A c b p w) : Calls Tryd.prog 94 #[.pointer (some ⟨gn, 0, none⟩)] w fun r w' => r = .panicked [{ v := .iface 85 (.agg #[.int .i64 (tFour b ⟨p, 0, 0⟩).2.bad, .int .i64 (tFour b ⟨p, 0, 0⟩).2.place]), recovered := false }] ∧ But ga w w' :=
  (tnum_any w0 ga gb gn gm A c b p w h).mono fun _ _ k => k.err hg
theorem tmem_ok {w0 : World} {ga gb gn gm : Nat} {A : Option Addr} {c : Nat} {b : List Int} {p : Nat} (hg : (tEight b ⟨p, 0, 0⟩).2.bad = 0) (w : World) (h : TkBy w0 ga gb gn gm A c b p w) : Calls Tryd.prog 95 #[.pointer (some ⟨gm, 0, none⟩)] w fun r w' => r = .returned (.int .i64 (tEight b ⟨p, 0, 0⟩).1) ∧ TkBy w0 ga gb gn gm A c b (tEight b ⟨p, 0, 0⟩).2.pos w' ∧ But ga w w' :=
  (memory_any w0 ga gb gn gm A c b p w h).mono fun _ _ k => k.ok hg
theorem tmem_no {w0 : World} {ga gb gn gm : Nat} {A : Option Addr} {c : Nat} {b : List Int} {p : Nat} (hg : ¬ (tEight b ⟨p, 0, 0⟩).2.bad = 0) (w : World) (h : TkBy w0 ga gb gn gm A c b p w) : Calls Tryd.prog 95 #[.pointer (some ⟨gm, 0, none⟩)] w fun r w' => r = .panicked [{ v := .iface 85 (.agg #[.int .i64 (tEight b ⟨p, 0, 0⟩).2.bad, .int .i64 (tEight b ⟨p, 0, 0⟩).2.place]), recovered := false }] ∧ But ga w w' :=
  (memory_any w0 ga gb gn gm A c b p w h).mono fun _ _ k => k.err hg
/-- Where a region ends by a panic, nothing is left of it to be walked. -/
theorem by_stop {G : Prop} (g : G) (w : World) : wpAny Tryd.prog .any #[] (fun _ _ _ => True) 0 #[] ⟨#[], []⟩ w → G := fun _ => g
theorem wrap_s32 {x : Int} (h0 : 0 ≤ x) (h1 : x < 4294967296) : wrap32 x = s32 x := by
  unfold wrap32 s32
  split <;> omega

set_option maxRecDepth 100000 in
set_option maxHeartbeats 8000000 in
theorem image_any (w0 : World) (ga gb gn gm : Nat) (A : Option Addr) (c : Nat) (b : List Int) (p : Nat) (w : World) (h : TkBy w0 ga gb gn gm A c b p w) :
    Calls Tryd.prog 81 #[.agg #[.func (.func 92) #[] #[.pointer (some ⟨ga, 0, none⟩)], .func (.func 93) #[] #[.pointer (some ⟨ga, 0, none⟩), .pointer (some ⟨gb, 0, none⟩)], .func (.func 94) #[] #[.pointer (some ⟨gn, 0, none⟩)], .func (.func 95) #[] #[.pointer (some ⟨gm, 0, none⟩)], .func (.func 96) #[] #[.pointer (some ⟨ga, 0, none⟩), .pointer (some ⟨gm, 0, none⟩)]]] w (ImgP w0 ga gb gn gm A c b p w) := by
  obtain ⟨iw, hw, hw0, hw1', hw2⟩ := infoW
  obtain ⟨il, hl, hl0, hl1, hl2⟩ := infoL
  have hab := h.areB
  obtain ⟨w1, hw1⟩ : ∃ w1, Hid ((w.alloc (.cells #[.func (.func 92) #[] #[.pointer (some ⟨ga, 0, none⟩)], .func (.func 93) #[] #[.pointer (some ⟨ga, 0, none⟩), .pointer (some ⟨gb, 0, none⟩)], .func (.func 94) #[] #[.pointer (some ⟨gn, 0, none⟩)], .func (.func 95) #[] #[.pointer (some ⟨gm, 0, none⟩)], .func (.func 96) #[] #[.pointer (some ⟨ga, 0, none⟩), .pointer (some ⟨gm, 0, none⟩)]] 148)).alloc (.cells #[.slice none 0 0, .int .i64 0, .slice none 0 0] 25) = w1) := ⟨_, rfl⟩
  have HBw : Hid (Below w.heap.size w w1) := by rw [Hid, ← hw1.out]; exact lb_alloc (lb_alloc (Below.refl _ _) _) _
  have HSz : Hid (w1.heap.size = w.heap.size + 2) := by rw [Hid, ← hw1.out]; simp
  have L : Hid (Lay w1.heap.size w0.heap.size ga gb gn gm w.heap.size (w.heap.size + 1)) := by
    have e := HSz.out
    have a1 := (Array.getElem?_eq_some_iff.1 h.hat).1
    have a2 := (Array.getElem?_eq_some_iff.1 h.hbx).1
    have a3 := (Array.getElem?_eq_some_iff.1 h.hnx).1
    have a4 := (Array.getElem?_eq_some_iff.1 h.hnu).1
    have a5 := h.below.size
    have a6 := h.le
    exact ⟨by omega, by omega, by omega, by omega, by omega, by omega, by omega, by omega, by omega, by omega, by omega, by omega, by omega, a6⟩
  have HT0 : Hid (IMid w0 w1 ga gb gn gm w.heap.size (w.heap.size + 1) A c b p #[.slice none 0 0, .int .i64 0, .slice none 0 0] (.slice none 0 0) 0 (iVals .u32 []) (.slice none 0 0) 0 (iVals .i64 []) w1) := by
    refine ⟨?_, ?_, ?_, World.ownsRow_nil _ _ _ _, World.ownsRow_nil _ _ _ _, rfl, rfl, rfl, Nat.le_refl _, fun _ _ _ _ => rfl⟩
    · exact h.keep HBw.out
    · rw [← hw1.out]; exact old_at (new_at rfl)
    · rw [← hw1.out]; exact new_at (by simp)
  have HPw : Hid (w.heap.size ≤ w.heap.size + 1) := Nat.le_succ _
  have C := fun wx (hx : TkBy w0 ga gb gn gm A c b p wx) => count_any 16384 (by omega) (by omega) w0 ga gb gn gm A c b p wx hx
  have C1 := C ((w.alloc (.cells #[.func (.func 92) #[] #[.pointer (some ⟨ga, 0, none⟩)], .func (.func 93) #[] #[.pointer (some ⟨ga, 0, none⟩), .pointer (some ⟨gb, 0, none⟩)], .func (.func 94) #[] #[.pointer (some ⟨gn, 0, none⟩)], .func (.func 95) #[] #[.pointer (some ⟨gm, 0, none⟩)], .func (.func 96) #[] #[.pointer (some ⟨ga, 0, none⟩), .pointer (some ⟨gm, 0, none⟩)]] 148)).alloc (.cells #[.slice none 0 0, .int .i64 0, .slice none 0 0] 25)) (by rw [hw1.out]; exact HT0.out.tk)
  clear h C
  by_cases hg1 : (tCount b 16384 ⟨p, 0, 0⟩).2.bad = 0
  · obtain ⟨r0, r1⟩ := count_range hab hg1
    have HA : Hid (jText b ⟨p, 0, 0⟩ = tList (tFour b) (tCount b 16384 ⟨p, 0, 0⟩).1.toNat ⟨(tCount b 16384 ⟨p, 0, 0⟩).2.pos, 0, 0⟩) := by
      show _ = _
      unfold jText tAll
      rw [← plain_tk (plain_count b 16384) hg1]
    obtain ⟨n, hn⟩ := Int.eq_ofNat_of_zero_le r0
    go_enter Tryd.func81, Tryd.ntmps81
    go_wp2_with fail
    refine C1.mono ?_
    intro r wc hr
    obtain ⟨rfl, hi1, hb1⟩ := hr.ok hg1
    rw [hn]
    rw [hn] at r1
    have hn2 : (tCount b 16384 ⟨p, 0, 0⟩).1.toNat = n := by rw [hn]; rfl
    have HA2 : Hid _ := HA.out
    rw [hn2] at HA2
    rw [hw1.out] at hb1
    have HT : Hid _ := HT0.out.take L.out hb1 hi1
    generalize (tCount b 16384 ⟨p, 0, 0⟩).2.pos = q0 at *
    clear hr hi1 hb1 hg1 HA hn hn2 C1 r0 HT0 hw1
    go_wp2
    go_loopw [6] (fun i wr => ∃ (k q : Nat) (done : List Int) (V1 : Value), i = .int .u32 k ∧ k ≤ n ∧ Hid (Far (tFour b) n ⟨q0, 0, 0⟩ k done q) ∧ Hid (IMid w0 w1 ga gb gn gm w.heap.size (w.heap.size + 1) A c b q #[V1, .int .i64 0, .slice none 0 0] V1 k (iVals .u32 done) (.slice none 0 0) 0 (iVals .i64 []) wr)) (fun i _ => n - (intOf i).toNat)
    case atStart => exact ⟨0, q0, [], _, rfl, Nat.zero_le _, far_start _ _ _, HT⟩
    case round =>
      clear HT
      obtain ⟨k, q, done, V1, rfl, hk, HF, HT⟩ := hrel
      obtain ⟨t0, t1, t2, t3, t4⟩ := box5_cell HT.out.tb
      obtain ⟨x0, x1, x2⟩ := box3_cell HT.out.box
      by_cases hlt : k < n
      · by_cases hg : (tFour b ⟨q, 0, 0⟩).2.bad = 0
        · have C3 := fun wx (hx : TkBy w0 ga gb gn gm A c b q wx) => tnum_ok hg wx hx
          have HX : Hid _ := far_next (plain_four b) HF.out hlt hg
          clear hg HF
          generalize tFour b ⟨q, 0, 0⟩ = F at *
          obtain ⟨x, t⟩ := F
          simp only at C3 HX
          go_upto_region 3 with fail
          go_region_law
            (first
              | (revert HO2; intro HO2; refine step_append_lies _ rfl (.tmp 9) (.tmp 13) 22 rfl w1.heap.size 61 iw (.int .u32 0) 1 4 Tryd.underlying22 hw hw0 hw1' hw2 rfl (by decide) V1 k (iVals .u32 done) rfl HO2.out ⟨wd.heap.size, 0, none⟩ 1 1 [.int .u32 x] rfl rfl (fun j u hu => World.news_of_block HNw.out j u hu) (by simp [Value.oneCell']) (by omega) (by unfold maxLen; omega) (by omega) (by have := HSz2.out; simp; omega) (wd.heap.size + 1) (by simp) ?_; intro g3 cap3 we hown hgrow hlie hlt3; have HT4 : Hid _ := IMid.grow1 HT3.out L.out ⟨hgrow.os, hgrow.tape, hgrow.output, hgrow.size, hgrow.block⟩ hown; have hXb := IMid.box HT4.out; have yD := (box3_cell hXb).1; have fD := box_fro hXb 0; clear hXb hown hgrow hlie hlt3)
              | (go_simp; go_at_call 94; refine (C3 wr.drew (IMid.drew HT.out).tk).mono ?_; rintro r wd ⟨rfl, ht1, hb1⟩; have HT2 : Hid _ := IMid.take (IMid.drew HT.out) L.out hb1 ht1; have HT3 : Hid _ := IMid.alloc HT2.out L.out (.cells #[.int .u32 x] 61); have HO2 : Hid _ := IMid.r1 HT3.out; have HSz2 : Hid (w1.heap.size ≤ wd.heap.size) := IMid.size HT2.out; have HNw : Hid ((wd.alloc (.cells #[.int .u32 x] 61)).heap[wd.heap.size]? = some (.cells #[.int .u32 x] 61 (0, 0))) := heap_alloc_new _ _; have cD := (box3_cell (IMid.box HT2.out)).1; have cE := (box3_cell (IMid.box HT3.out)).1; clear hb1 ht1))
          all_goals (
            go_wp2_with fail
            go_roundw
            case rel => exact ⟨k + 1, _, _, _, by go_num, by omega, HX, by rw [iVals_snoc]; exact IMid.set HT4.out L.out 0 _⟩
            case measure => simp [intOf]; omega)
        · have C3 := fun wx (hx : TkBy w0 ga gb gn gm A c b q wx) => tnum_no hg wx hx
          have HX : Hid ((jMem b ⟨p, 0, 0⟩).2 = (tFour b ⟨q, 0, 0⟩).2) := by
            have e := far_bad HF.out hlt hg
            rw [← HA2.out] at e
            rw [Hid, ← e]
            exact jmem_text (by rw [e]; exact hg)
          have HG : Hid _ := hg
          clear hg HF
          generalize (tFour b ⟨q, 0, 0⟩).2 = T at *
          go_upto_region 3 with fail
          go_region_law (go_simp; go_at_call 94; refine (C3 wr.drew (IMid.drew HT.out).tk).mono ?_; rintro r wd ⟨rfl, hb1⟩; refine by_stop ⟨rfl, imgP_no (((IMid.drew HT.out).but HBw.out HPw.out).trans hb1) HX.out HG.out⟩ wd ?_)
          all_goals trivial
      · obtain rfl : k = n := by omega
        have HL : Hid (jText b ⟨p, 0, 0⟩ = (done, ⟨q, 0, 0⟩)) := by rw [Hid, HA2.out]; exact far_end HF.out
        have hdl : done.length = k := HF.out.1
        clear HF HA2 hk hlt
        by_cases hg : (tFour b ⟨q, 0, 0⟩).2.bad = 0
        · have C3 := tnum_ok hg wr HT.out.tk
          have HE : Hid (jEnt b ⟨p, 0, 0⟩ = ((tFour b ⟨q, 0, 0⟩).1, ⟨(tFour b ⟨q, 0, 0⟩).2.pos, 0, 0⟩)) := by
            rw [Hid, jEnt, HL.out, ← plain_tk (plain_four b) hg]
          obtain ⟨-, v0, v1⟩ := tFour_ok hab hg
          have hws := wrap_s32 v0 v1
          have hws2 := wrap_s32b v0 v1
          clear hg
          generalize (tFour b ⟨q, 0, 0⟩).2.pos = q2 at *
          generalize (tFour b ⟨q, 0, 0⟩).1 = ent at *
          go_wp2_with fail
          refine C3.mono ?_
          rintro r wd ⟨rfl, ht1, hb1⟩
          have HT2 : Hid _ := HT.out.take L.out hb1 ht1
          clear hb1 ht1 HT t0 t1 t2 t3 t4 x0 x1 x2
          obtain ⟨x0, x1, x2⟩ := box3_cell HT2.out.box
          have f1 := box_fro HT2.out.box 1
          have C4 := fun wx (hx : TkBy w0 ga gb gn gm A c b q2 wx) => count_any 4096 (by omega) (by omega) w0 ga gb gn gm A c b q2 wx hx
          have HT3 : Hid _ := HT2.out.set L.out 1 (.int .i64 (s32 ent))
          have HT3 : Hid (IMid w0 w1 ga gb gn gm w.heap.size (w.heap.size + 1) A c b q2 #[V1, .int .i64 (s32 ent), .slice none 0 0] V1 k (iVals .u32 done) (.slice none 0 0) 0 (iVals .i64 []) (wd.setCell ⟨w.heap.size + 1, 1, none⟩ (.int .i64 (s32 ent)))) := HT3.out
          obtain ⟨t0, t1, t2, t3, t4⟩ := box5_cell HT2.out.tb
          have C5 := C4 _ HT3.out.tk
          clear C4 C3 HT2
          by_cases hg2 : (tCount b 4096 ⟨q2, 0, 0⟩).2.bad = 0
          · obtain ⟨r3, r4⟩ := count_range hab hg2
            have HA : Hid (jMem b ⟨p, 0, 0⟩ = tList (tEight b) (tCount b 4096 ⟨q2, 0, 0⟩).1.toNat ⟨(tCount b 4096 ⟨q2, 0, 0⟩).2.pos, 0, 0⟩) := by
              rw [Hid, jMem, HE.out, tAll, ← plain_tk (plain_count b 4096) hg2]
            obtain ⟨m, hm⟩ := Int.eq_ofNat_of_zero_le r3
            go_wp2_with fail
            refine C5.mono ?_
            intro r we hr
            obtain ⟨rfl, hi1, hb1⟩ := hr.ok hg2
            rw [hm]
            rw [hm] at r4
            have hm2 : (tCount b 4096 ⟨q2, 0, 0⟩).1.toNat = m := by rw [hm]; rfl
            have HA2 : Hid _ := HA.out
            rw [hm2] at HA2
            have HT : Hid _ := HT3.out.take L.out hb1 hi1
            generalize (tCount b 4096 ⟨q2, 0, 0⟩).2.pos = q3 at *
            clear hr hi1 hb1 hg2 HA hm hm2 C5 r3 HT3 t0 t1 t2 t3 t4 x0 x1 x2 f1
            go_wp2
            go_loopw [26] (fun i wr => ∃ (j q : Nat) (don2 : List Int) (V2 : Value), i = .int .u32 j ∧ j ≤ m ∧ Hid (Far (tEight b) m ⟨q3, 0, 0⟩ j don2 q) ∧ Hid (IMid w0 w1 ga gb gn gm w.heap.size (w.heap.size + 1) A c b q #[V1, .int .i64 (s32 ent), V2] V1 k (iVals .u32 done) V2 j (iVals .i64 don2) wr)) (fun i _ => m - (intOf i).toNat)
            case atStart => exact ⟨0, q3, [], _, rfl, Nat.zero_le _, far_start _ _ _, HT⟩
            case round =>
              clear HT
              obtain ⟨j, q, don2, V2, rfl, hj, HF, HT⟩ := hrel
              obtain ⟨t0, t1, t2, t3, t4⟩ := box5_cell HT.out.tb
              obtain ⟨x0, x1, x2⟩ := box3_cell HT.out.box
              by_cases hlt : j < m
              · by_cases hg : (tEight b ⟨q, 0, 0⟩).2.bad = 0
                · have C3 := fun wx (hx : TkBy w0 ga gb gn gm A c b q wx) => tmem_ok hg wx hx
                  have HX : Hid _ := far_next (plain_eight b) HF.out hlt hg
                  clear hg HF
                  generalize tEight b ⟨q, 0, 0⟩ = F at *
                  obtain ⟨x, t⟩ := F
                  simp only at C3 HX
                  go_upto_region 8 with fail
                  go_region_law
                    (first
                      | (revert HO2; intro HO2; refine step_append_lies _ rfl (.tmp 29) (.tmp 33) 23 rfl w1.heap.size 2 il (.int .i64 0) 1 8 Tryd.underlying23 hl hl0 hl1 hl2 rfl (by decide) V2 j (iVals .i64 don2) rfl HO2.out ⟨wd.heap.size, 0, none⟩ 1 1 [.int .i64 x] rfl rfl (fun j u hu => World.news_of_block HNw.out j u hu) (by simp [Value.oneCell']) (by omega) (by unfold maxLen; omega) (by omega) (by have := HSz2.out; simp; omega) (wd.heap.size + 1) (by simp) ?_; intro g3 cap3 wf hown hgrow hlie hlt3; have HT4 : Hid _ := IMid.grow2 HT3.out L.out ⟨hgrow.os, hgrow.tape, hgrow.output, hgrow.size, hgrow.block⟩ hown; have hXb := IMid.box HT4.out; have yD := (box3_cell hXb).2.2; have fD := box_fro hXb 2; clear hXb hown hgrow hlie hlt3)
                      | (go_simp; go_at_call 95; refine (C3 wr.drew (IMid.drew HT.out).tk).mono ?_; rintro r wd ⟨rfl, ht1, hb1⟩; have HT2 : Hid _ := IMid.take (IMid.drew HT.out) L.out hb1 ht1; have HT3 : Hid _ := IMid.alloc HT2.out L.out (.cells #[.int .i64 x] 2); have HO2 : Hid _ := IMid.r2 HT3.out; have HSz2 : Hid (w1.heap.size ≤ wd.heap.size) := IMid.size HT2.out; have HNw : Hid ((wd.alloc (.cells #[.int .i64 x] 2)).heap[wd.heap.size]? = some (.cells #[.int .i64 x] 2 (0, 0))) := heap_alloc_new _ _; have cD := (box3_cell (IMid.box HT2.out)).2.2; have cE := (box3_cell (IMid.box HT3.out)).2.2; clear hb1 ht1))
                  all_goals (
                    go_wp2_with fail
                    go_roundw
                    case rel => exact ⟨j + 1, _, _, _, by go_num, by omega, HX, by rw [iVals_snoc]; exact IMid.set HT4.out L.out 2 _⟩
                    case measure => simp [intOf]; omega)
                · have C3 := fun wx (hx : TkBy w0 ga gb gn gm A c b q wx) => tmem_no hg wx hx
                  have HX : Hid ((jMem b ⟨p, 0, 0⟩).2 = (tEight b ⟨q, 0, 0⟩).2) := by
                    rw [Hid, HA2.out]
                    exact far_bad HF.out hlt hg
                  have HG : Hid _ := hg
                  clear hg HF
                  generalize (tEight b ⟨q, 0, 0⟩).2 = T at *
                  go_upto_region 8 with fail
                  go_region_law (go_simp; go_at_call 95; refine (C3 wr.drew (IMid.drew HT.out).tk).mono ?_; rintro r wd ⟨rfl, hb1⟩; refine by_stop ⟨rfl, imgP_no (((IMid.drew HT.out).but HBw.out HPw.out).trans hb1) HX.out HG.out⟩ wd ?_)
                  all_goals trivial
              · obtain rfl : j = m := by omega
                have HM : Hid (jMem b ⟨p, 0, 0⟩ = (don2, ⟨q, 0, 0⟩)) := by rw [Hid, HA2.out]; exact far_end HF.out
                have hdm : don2.length = j := HF.out.1
                obtain ⟨A1, k1, rfl, -⟩ := own_any HT.out.r1
                obtain ⟨A2, k2, rfl, -⟩ := own_any HT.out.r2
                have f0 := box_fro HT.out.box 0
                have f1 := box_fro HT.out.box 1
                have f2 := box_fro HT.out.box 2
                have HT9 : Hid _ := ((HT.out.set L.out 0 (.slice A1 k k1)).set L.out 1 (.int .i64 (s32 ent))).set L.out 2 (.slice A2 j k2)
                clear HF HA2 hj hlt t0 t1 t2 t3 t4
                go_wp2
                refine bodyPost_ret (v := .agg #[.slice A1 k k1, .int .i64 (s32 ent), .slice A2 j k2]) (by simp [results, Tryd.results81, go_sem, x0, x1, x2]) rfl ?_
                subst hdl hdm
                have := L.out.f
                have := HSz.out
                exact imgP_yes (HT9.out.but HBw.out HPw.out) (by rw [HL.out]) (by rw [HE.out]) HM.out ⟨ownsRow_mono HT9.out.r1 (by omega), ownsRow_mono HT9.out.r2 (by omega)⟩ HT9.out.tk
          · have HX : Hid ((jMem b ⟨p, 0, 0⟩).2 = (tCount b 4096 ⟨q2, 0, 0⟩).2) := by
              have e : (jEnt b ⟨p, 0, 0⟩).2 = ⟨q2, 0, 0⟩ := by rw [HE.out]
              rw [Hid, ← e]
              exact jmem_count (by rw [e]; exact hg2)
            have HG : Hid _ := hg2
            go_wp2_with fail
            refine C5.mono ?_
            intro r we hr
            obtain ⟨rfl, hb1⟩ := hr.err hg2
            clear hr hg2
            generalize (tCount b 4096 ⟨q2, 0, 0⟩).2 = T at *
            go_wp2
            exact ⟨rfl, imgP_no ((HT3.out.but HBw.out HPw.out).trans hb1) HX.out HG.out⟩
        · have C3 := tnum_no hg wr HT.out.tk
          have HX : Hid ((jMem b ⟨p, 0, 0⟩).2 = (tFour b ⟨q, 0, 0⟩).2) := by
            have e : jEnt b ⟨p, 0, 0⟩ = tFour b ⟨q, 0, 0⟩ := by rw [jEnt, HL.out]
            rw [Hid, ← e]
            exact jmem_ent (by rw [e]; exact hg)
          have HG : Hid _ := hg
          clear hg
          generalize (tFour b ⟨q, 0, 0⟩).2 = T at *
          go_wp2_with fail
          refine C3.mono ?_
          rintro r wd ⟨rfl, hb1⟩
          go_wp2
          exact ⟨rfl, imgP_no ((HT.out.but HBw.out HPw.out).trans hb1) HX.out HG.out⟩
  · have HX : Hid ((jMem b ⟨p, 0, 0⟩).2 = (tCount b 16384 ⟨p, 0, 0⟩).2) := by
      have e := jtext_count (b := b) (t := ⟨p, 0, 0⟩) hg1
      rw [Hid, ← e]
      exact jmem_text (by rw [e]; exact hg1)
    have HG : Hid _ := hg1
    go_enter Tryd.func81, Tryd.ntmps81
    go_wp2_with fail
    refine C1.mono ?_
    intro r wc hr
    obtain ⟨rfl, hb1⟩ := hr.err hg1
    clear hr hg1
    rw [hw1.out] at hb1
    generalize (tCount b 16384 ⟨p, 0, 0⟩).2 = T at *
    go_wp2
    exact ⟨rfl, imgP_no ((HT0.out.but HBw.out HPw.out).trans hb1) HX.out HG.out⟩

end Go.Proofs.YtfaekkbblpfbhaaDoor
