/-
  The document reads an image; the bytes are at most 2^19.
-/
import Derived.Test.YtfaekkbblpfbhaaDoorProg
import Derived.WalkKit
import Derived.WalkSpells
import Derived.WalkLawsBesides
import Derived.RowKit3
import Derived.Below
import Derived.Deep.QuietTactic
import Derived.BigQuiet
import Derived.WalkSmall
import Derived.Laws.Rows
import Derived.Test.YtfaekkbblpfbhaaDoorIr30
import Derived.Test.YtfaekkbblpfbhaaDoorIr31
import Derived.Test.YtfaekkbblpfbhaaDoorIr32
import Derived.Test.YtfaekkbblpfbhaaDoorIr33
import Derived.Test.YtfaekkbblpfbhaaDoorIr23
import Derived.Test.YtfaekkbblpfbhaaDoorIr34
import Derived.Deep.DeepCutAuto
import Derived.Deep.RegionHeld3
import Derived.Deep.RegionLaw
import Derived.Deep.AppendLies
namespace Go.Proofs.YtfaekkbblpfbhaaDoor
open Go.RowKit

theorem Two.below {w0 w1 wr : World} {g P : Nat} {A : Option Addr} {N c : Nat} {t : Tk} {cs : Array Value} {Ta : TypeId} {sa : Nat} {Va : Value} {na : Nat} {xa : List Value} {Tb : TypeId} {sb : Nat} {Vb : Value} {nb : Nat} {xb : List Value} (h : Two w1 g P A N c t cs Ta sa Va na xa Tb sb Vb nb xb wr) (hb : Below w0.heap.size w0 w1) (hg : w0.heap.size ≤ g) (hP : w0.heap.size ≤ P) : Below w0.heap.size w0 wr :=
  ⟨h.os.trans hb.os, h.tape.trans hb.tape, h.output.trans hb.output, Nat.le_trans hb.size h.size, fun k hk => (h.block k (Nat.lt_of_lt_of_le hk hb.size) (by omega) (by omega)).trans (hb.block k hk)⟩
theorem pos_list {α : Type} {b : List Int} {f : Tk → α × Tk} (hf : ∀ t, PosB b t → PosB b (f t).2) : ∀ (n : Nat) (t : Tk), PosB b t → PosB b (tList f n t).2
  | 0, _, h => h
  | n + 1, t, h => by
    rw [tList]
    split
    · exact pos_list hf n _ (hf t h)
    · exact h

theorem tookI_eq {b : List Int} {t2 t3 t4 t5 t6 : Tk} {n n2 ent : Int} {text mem : List Int} (h2 : tCount b 16384 (tBegin b begI) = (n, t2)) (h3 : tList (tFour b) n.toNat t2 = (text, t3)) (h4 : tFour b t3 = (ent, t4)) (h5 : tCount b 4096 t4 = (n2, t5)) (h6 : tList (tEight b) n2.toNat t5 = (mem, t6)) : tookI b = ⟨text, ent, mem, tEnd b t6⟩ := by
  have e2 : iText b = (text, t3) := by unfold iText; rw [h2]; exact h3
  have e3 : iEnt b = (ent, t4) := by unfold iEnt; rw [e2]; exact h4
  have e4 : iMem b = (mem, t6) := by unfold iMem; rw [e3]; simp only; rw [h5]; exact h6
  unfold tookI
  rw [e2, e3, e4]
theorem box3_fro {w : World} {B : Nat} {cs : Array Value} {t : TypeId} (h : w.heap[B]? = some (.cells cs t (0, 0))) : w.frozen? ⟨B, 0, none⟩ = false ∧ w.frozen? ⟨B, 1, none⟩ = false ∧ w.frozen? ⟨B, 2, none⟩ = false := ⟨box_fro h 0, box_fro h 1, box_fro h 2⟩
theorem four_in {b : List Int} (hA : AreB b) (t : Tk) : 0 ≤ (tFour b t).1 ∧ (tFour b t).1 < 4294967296 := by
  by_cases hz : (tFour b t).2.bad = 0
  · obtain ⟨_, q1, q2⟩ := tFour_ok hA hz; exact ⟨q1, q2⟩
  · unfold tFour at hz ⊢
    split
    · next h => rw [if_pos h] at hz; exact absurd rfl hz
    · simp
set_option maxRecDepth 100000 in
set_option maxHeartbeats 8000000 in
theorem refread_any (A : Option Addr) (c : Nat) (b : List Int) (w : World) (hB : IntsAt w A .u8 b) (hA : AreB b) (hN : b.length ≤ 524288) (hcap : b.length ≤ c) : Calls Tryd.prog 20 #[.slice A b.length c] w (ReadP b w) := by
  obtain ⟨iw, hw, hw0, hw1', hw2⟩ := infoW
  obtain ⟨il, hl, hl0, hl1, hl2⟩ := infoL
  have HN : Hid (∀ t, PosB b t → t.pos ≤ 524292) := fun t h => Nat.le_trans h (by omega)
  have hTb : Hid (TkAt ((w.alloc (.cells #[.slice none 0 0, .int .i64 0, .slice none 0 0] 25)).alloc (.cells #[.slice A b.length c, .int .i64 0, .int .i64 0, .int .i64 0] 90)) (w.heap.size + 1) A b.length c ⟨0, 0, 0⟩) := by
    have e : ((w.alloc (.cells #[.slice none 0 0, .int .i64 0, .slice none 0 0] 25)).alloc (.cells #[.slice A b.length c, .int .i64 0, .int .i64 0, .int .i64 0] 90)).heap[w.heap.size + 1]? = some (.cells #[.slice A b.length c, .int .i64 0, .int .i64 0, .int .i64 0] 90 (0, 0)) := new_at (by simp)
    refine ⟨⟨?_, ?_, ?_, ?_⟩, fun i => box_fro e i⟩ <;> (rw [cell_of_row _ _ _ _ _ _ e]; rfl)
  have hRb : Hid (((w.alloc (.cells #[.slice none 0 0, .int .i64 0, .slice none 0 0] 25)).alloc (.cells #[.slice A b.length c, .int .i64 0, .int .i64 0, .int .i64 0] 90)).heap[w.heap.size]? = some (.cells #[.slice none 0 0, .int .i64 0, .slice none 0 0] 25 (0, 0))) := old_at (new_at rfl)
  have hBb : Hid (Below w.heap.size w ((w.alloc (.cells #[.slice none 0 0, .int .i64 0, .slice none 0 0] 25)).alloc (.cells #[.slice A b.length c, .int .i64 0, .int .i64 0, .int .i64 0] 90))) := lb_alloc (lb_alloc (Below.refl _ _) _) _
  have C0 := tbegin_any (w.heap.size + 1) A c b w _ hB hBb.out (by omega) (by omega) hTb.out
  have CC := fun (t : Tk) (m : Int) (hm : 0 ≤ m) (hp : PosB b t) wx (hb : Below w.heap.size w wx) (h : TkAt wx (w.heap.size + 1) A b.length c t) => tcount_any (w.heap.size + 1) A c b t w wx hB hb (by omega) hA (by omega) (by have := HN.out t hp; omega) h m hm
  have C4 := fun (t : Tk) (hp : PosB b t) wx (hb : Below w.heap.size w wx) (h : TkAt wx (w.heap.size + 1) A b.length c t) => tfour_any (w.heap.size + 1) A c b t w wx hB hb (by omega) hA (by omega) (by have := HN.out t hp; omega) h
  have C8 := fun (t : Tk) (hp : PosB b t) wx (hb : Below w.heap.size w wx) (h : TkAt wx (w.heap.size + 1) A b.length c t) => teight_any (w.heap.size + 1) A c b t w wx hB hb (by omega) hA (by omega) (by have := HN.out t hp; omega) h
  have CE := fun (t : Tk) (hp : PosB b t) wx (hb : Below w.heap.size w wx) (h : TkAt wx (w.heap.size + 1) A b.length c t) => tend_any (w.heap.size + 1) A c b t w wx hB hb (by omega) hA (by omega) (by have := HN.out t hp; omega) h hcap
  have HCE : Hid _ := CE
  have HC8 : Hid _ := C8
  have HC4 : Hid _ := C4
  have HCC : Hid _ := CC
  have HPb : Hid (PosB b (tBegin b begI)) := by
    unfold Hid PosB tBegin
    split <;> simp [begI]
  clear CE C8 C4 CC
  go_enter Tryd.func20, Tryd.ntmps20
  go_wp2_with fail
  refine C0.mono ?_
  rintro r wb ⟨rfl, hb1, ht1⟩
  have HBb : Hid (Below w.heap.size w wb) := hb1.below hBb.out (by omega)
  have HRb : Hid _ := but_box hb1 hRb.out (by omega)
  have HTb : Hid (TkAt wb (w.heap.size + 1) A b.length c (tBegin b begI)) := ht1
  clear hb1 ht1 C0 hTb hRb hBb
  obtain ⟨w1, hw1⟩ : ∃ w1, Hid (wb.alloc (.cells #[.slice none 0 0, .int .i64 0, .slice none 0 0] 25) = w1) := ⟨_, rfl⟩
  have HSz : Hid (w1.heap.size = wb.heap.size + 1) := by rw [Hid, ← hw1.out]; simp
  have hP1 : w.heap.size + 2 ≤ wb.heap.size := by
    have := tk_lt HTb.out
    omega
  have HP1' : Hid _ := hP1
  have hT0 : Hid (Two w1 (w.heap.size + 1) wb.heap.size A b.length c (tBegin b begI) #[.slice none 0 0, .int .i64 0, .slice none 0 0] 61 1 (.slice none 0 0) 0 (iVals .u32 []) 2 1 (.slice none 0 0) 0 (iVals .i64 []) w1) := by
    refine ⟨?_, ?_, World.ownsRow_nil _ _ _ _, World.ownsRow_nil _ _ _ _, rfl, rfl, rfl, Nat.le_refl _, fun _ _ _ _ => rfl⟩
    · rw [← hw1.out]; exact HTb.out.keep (lb_alloc (Below.refl _ _) _)
    · rw [← hw1.out]; exact heap_alloc_new _ _
  have HBw : Hid (Below w.heap.size w w1) := by rw [Hid, ← hw1.out]; exact lb_alloc HBb.out _
  have HR1 : Hid (w1.heap[w.heap.size]? = some (.cells #[.slice none 0 0, .int .i64 0, .slice none 0 0] 25 (0, 0))) := by
    rw [Hid, ← hw1.out, (lb_alloc (Below.refl _ wb) _).block w.heap.size (by omega)]
    exact HRb.out
  have HGs : Hid (w.heap.size + 1 < w1.heap.size) := by have := HSz.out; show _ < _; omega
  have HPs : Hid (wb.heap.size < w1.heap.size) := by have := HSz.out; show _ < _; omega
  have HPg : Hid (wb.heap.size ≠ w.heap.size + 1) := by show _ ≠ _; omega
  have HWP : Hid (w.heap.size ≤ wb.heap.size) := by show _ ≤ _; omega
  have HWg : Hid (w.heap.size ≤ w.heap.size + 1) := Nat.le_succ _
  have C2 := HCC.out (tBegin b begI) 16384 (by omega) HPb.out (wb.alloc (.cells #[.slice none 0 0, .int .i64 0, .slice none 0 0] 25)) (by rw [hw1.out]; exact HBw.out) (by rw [hw1.out]; exact hT0.out.tk)
  have hq := count_in hA (m := 16384) (by omega) (tBegin b begI)
  have hpt := pos_count (m := 16384) HPb.out
  generalize hE2 : tCount b 16384 (tBegin b begI) = R at C2 hq hpt
  obtain ⟨nn, t2⟩ := R
  simp only at C2 hq hpt
  obtain ⟨m, rfl⟩ := Int.eq_ofNat_of_zero_le hq.1
  have HE2 : Hid (tCount b 16384 (tBegin b begI) = ((m : Int), t2)) := hE2
  have HP2 : Hid (PosB b t2) := hpt
  clear hE2 hpt HBb HRb HTb HPb hP1
  go_wp2_with fail
  refine C2.mono ?_
  rintro r wc ⟨rfl, hb1, ht1⟩
  rw [hw1.out] at hb1
  have HT : Hid (Two w1 (w.heap.size + 1) wb.heap.size A b.length c t2 #[.slice none 0 0, .int .i64 0, .slice none 0 0] 61 1 (.slice none 0 0) 0 (iVals .u32 []) 2 1 (.slice none 0 0) 0 (iVals .i64 []) wc) := hT0.out.take HGs.out HPg.out hb1 ht1
  clear hb1 ht1 C2 hT0 hw1
  go_wp2
  go_loopw [8] (fun i wr => ∃ (k : Nat) (text : List Int) (t3 : Tk) (V1 : Value), i = .int .i64 k ∧ k ≤ m ∧ Hid (Fars (tFour b) m t2 k text t3) ∧ Hid (PosB b t3) ∧ Hid (Two w1 (w.heap.size + 1) wb.heap.size A b.length c t3 #[V1, .int .i64 0, .slice none 0 0] 61 1 V1 k (iVals .u32 text) 2 1 (.slice none 0 0) 0 (iVals .i64 []) wr)) (fun i _ => m - (intOf i).toNat)
  case atStart => exact ⟨0, [], t2, (.slice none 0 0), rfl, Nat.zero_le _, fars_start _ _ _, HP2, HT⟩
  case round =>
    clear HT
    obtain ⟨k, text, t3, V1, rfl, hk, HFar, HP3, HT⟩ := hrel
    have cB := HT.out.tk.1.2.2.1
    have c1 := (box3_cell HT.out.box).1
    by_cases hgo : k < m ∧ t3.bad = 0
    · obtain ⟨hlt, hz⟩ := hgo
      have hz' : (t3.bad == 0) = true := by simpa using hz
      have HFar2 : Hid _ := fars_next HFar.out hlt hz
      have HPd : Hid (PosB b (tFour b t3).2) := pos_four HP3.out
      have C3 := fun wx (hb : Below w.heap.size w wx) (h : TkAt wx (w.heap.size + 1) A b.length c t3) => HC4.out t3 HP3.out wx hb h
      generalize tFour b t3 = R at HFar2 HPd C3
      obtain ⟨x, t4⟩ := R
      simp only at HFar2 HPd C3
      have HBr : Hid (Below w.heap.size w wr) := HT.out.below HBw.out HWg.out HWP.out
      clear hz HFar HP3
      go_upto_region 8 with fail
      go_region_law
        (first
          | (revert HO2; intro HO2; refine step_append_lies _ rfl (.tmp 33) (.tmp 36) 22 rfl w1.heap.size 61 iw (.int .u32 0) 1 4 Tryd.underlying22 hw hw0 hw1' hw2 rfl (by decide) V1 k (iVals .u32 text) rfl HO2.out ⟨wd.heap.size, 0, none⟩ 1 1 [.int .u32 x] rfl rfl (fun j u hu => World.news_of_block HNw.out j u hu) (by simp [Value.oneCell']) (by omega) (by unfold maxLen; omega) (by omega) (by have := HSz2.out; simp; omega) (wd.heap.size + 1) (by simp) ?_; intro g3 cap3 we hown hgrow hlie hlt3; have HT4 : Hid _ := Two.grow HT3.out (by decide) HGs.out HPs.out ⟨hgrow.os, hgrow.tape, hgrow.output, hgrow.size, hgrow.block⟩ hown; have hXb := Two.box HT4.out; have yD := (box3_cell hXb).1; have fD := box_fro hXb 0; clear hXb hown hgrow hlie hlt3)
          | (go_simp; go_at_call 62; refine (C3 wr.drew (Below.drew HBr.out) HT.out.drew.tk).mono ?_; rintro r wd ⟨rfl, hb1, ht1⟩; have HT2 : Hid _ := HT.out.drew.take HGs.out HPg.out hb1 ht1; have HT3 : Hid _ := Two.alloc HT2.out HGs.out HPs.out (.cells #[.int .u32 x] 61); have HO2 : Hid _ := Two.ra HT3.out; have HSz2 : Hid (w1.heap.size ≤ wd.heap.size) := Two.size HT2.out; have HNw : Hid ((wd.alloc (.cells #[.int .u32 x] 61)).heap[wd.heap.size]? = some (.cells #[.int .u32 x] 61 (0, 0))) := heap_alloc_new _ _; have cD := (box3_cell (Two.box HT2.out)).1; have cE := (box3_cell (Two.box HT3.out)).1; clear hb1 ht1))
      all_goals (
        go_wp2_with fail
        go_roundw
        case rel => exact ⟨k + 1, _, t4, _, by go_num, by omega, HFar2, HPd, by rw [iVals_snoc]; exact Two.set HT4.out HPs.out HPg.out 0 _⟩
        case measure => simp [intOf]; omega)
    · have HL : Hid (tList (tFour b) m t2 = (text, t3)) := fars_end HFar.out hgo
      obtain rfl : k = text.length := HFar.out.1.symm
      have hcase : (text.length < m ∧ (t3.bad == 0) = false) ∨ ¬ text.length < m := by
        by_cases hlt : text.length < m
        · exact Or.inl ⟨hlt, by simpa using fun h => hgo ⟨hlt, h⟩⟩
        · exact Or.inr hlt
      have C3 := HC4.out t3 HP3.out wr (HT.out.below HBw.out HWg.out HWP.out) HT.out.tk
      have hpt := pos_four HP3.out
      have hfi := four_in hA t3
      generalize hE : tFour b t3 = R at C3 hpt hfi
      obtain ⟨ent, t4⟩ := R
      have HE4 : Hid (tFour b t3 = (ent, t4)) := hE
      simp only at C3 hpt hfi
      obtain ⟨hf0, hf1⟩ := hfi
      have HP4 : Hid (PosB b t4) := hpt
      have hwr : IntKind.i64.wrap ent = ent := wrap64N (by omega)
      have HV : Hid _ := own_any (Two.ra HT.out)
      clear hE hpt hgo HFar HP3
      rcases hcase with ⟨hlt, hz'⟩ | hlt
      all_goals (
        go_wp2_with fail
        refine C3.mono ?_
        rintro r wd ⟨rfl, hb1, ht1⟩
        have HS : Hid _ := HT.out.take HGs.out HPg.out hb1 ht1
        clear hb1 ht1 C3 HT cB c1
        have hXb := Two.box HS.out
        have y2 := (box3_cell hXb).2.1
        have f2 := box_fro hXb 1
        have HS2 : Hid (Two w1 (w.heap.size + 1) wb.heap.size A b.length c t4 #[V1, .int .i64 ent, .slice none 0 0] 61 1 V1 text.length (iVals .u32 text) 2 1 (.slice none 0 0) 0 (iVals .i64 []) (wd.setCell ⟨wb.heap.size, 1, none⟩ (.int .i64 ent))) := Two.set HS.out HPs.out HPg.out 1 (.int .i64 ent)
        have C5 := HCC.out t4 4096 (by omega) HP4.out _ (Two.below HS2.out HBw.out HWg.out HWP.out) (Two.tk HS2.out)
        have hq2 := count_in hA (m := 4096) (by omega) t4
        have hpt := pos_count (m := 4096) HP4.out
        generalize hE : tCount b 4096 t4 = R at C5 hq2 hpt
        obtain ⟨nn, t5⟩ := R
        simp only at C5 hq2 hpt
        obtain ⟨q, rfl⟩ := Int.eq_ofNat_of_zero_le hq2.1
        have HE5 : Hid (tCount b 4096 t4 = ((q : Int), t5)) := hE
        have HP5 : Hid (PosB b t5) := hpt
        clear hE hpt hXb HS HP4
        go_wp2_with fail
        refine C5.mono ?_
        rintro r we ⟨rfl, hb1, ht1⟩
        have HT : Hid (Two w1 (w.heap.size + 1) wb.heap.size A b.length c t5 #[V1, .int .i64 ent, .slice none 0 0] 61 1 V1 text.length (iVals .u32 text) 2 1 (.slice none 0 0) 0 (iVals .i64 []) we) := Two.take HS2.out HGs.out HPg.out hb1 ht1
        clear hb1 ht1 C5 HS2 y2 f2
        go_wp2
        go_loopw [10] (fun i wr => ∃ (k : Nat) (mem : List Int) (t6 : Tk) (V2 : Value), i = .int .i64 k ∧ k ≤ q ∧ Hid (Fars (tEight b) q t5 k mem t6) ∧ Hid (PosB b t6) ∧ Hid (Two w1 (w.heap.size + 1) wb.heap.size A b.length c t6 #[V1, .int .i64 ent, V2] 61 1 V1 text.length (iVals .u32 text) 2 1 V2 k (iVals .i64 mem) wr)) (fun i _ => q - (intOf i).toNat)
        case atStart => exact ⟨0, [], t5, (.slice none 0 0), rfl, Nat.zero_le _, fars_start _ _ _, HP5, HT⟩
        case round =>
          clear HT
          obtain ⟨k, mem, t6, V2, rfl, hk2, HFar, HP6, HT⟩ := hrel
          have cB := HT.out.tk.1.2.2.1
          have c3 := (box3_cell HT.out.box).2.2
          by_cases hgo : k < q ∧ t6.bad = 0
          · obtain ⟨hlt, hz⟩ := hgo
            have hz' : (t6.bad == 0) = true := by simpa using hz
            have HFar2 : Hid _ := fars_next HFar.out hlt hz
            have HPd : Hid (PosB b (tEight b t6).2) := pos_eight HP6.out
            have C3 := fun wx (hb : Below w.heap.size w wx) (h : TkAt wx (w.heap.size + 1) A b.length c t6) => HC8.out t6 HP6.out wx hb h
            generalize tEight b t6 = R at HFar2 HPd C3
            obtain ⟨x, t7⟩ := R
            simp only at HFar2 HPd C3
            have HBr : Hid (Below w.heap.size w wr) := HT.out.below HBw.out HWg.out HWP.out
            clear hz HFar HP6
            go_upto_region 14 with fail
            go_region_law
              (first
                | (revert HO2; intro HO2; refine step_append_lies _ rfl (.tmp 58) (.tmp 61) 23 rfl w1.heap.size 2 il (.int .i64 0) 1 8 Tryd.underlying23 hl hl0 hl1 hl2 rfl (by decide) V2 k (iVals .i64 mem) rfl HO2.out ⟨wd.heap.size, 0, none⟩ 1 1 [.int .i64 x] rfl rfl (fun j u hu => World.news_of_block HNw.out j u hu) (by simp [Value.oneCell']) (by omega) (by unfold maxLen; omega) (by omega) (by have := HSz2.out; simp; omega) (wd.heap.size + 1) (by simp) ?_; intro g3 cap3 we hown hgrow hlie hlt3; have HT4 : Hid _ := Two.grow (Two.swap HT3.out) (by decide) HGs.out HPs.out ⟨hgrow.os, hgrow.tape, hgrow.output, hgrow.size, hgrow.block⟩ hown; have hXb := Two.box HT4.out; have yD := (box3_cell hXb).2.2; have fD := box_fro hXb 2; clear hXb hown hgrow hlie hlt3)
                | (go_simp; go_at_call 63; refine (C3 wr.drew (Below.drew HBr.out) HT.out.drew.tk).mono ?_; rintro r wd ⟨rfl, hb1, ht1⟩; have HT2 : Hid _ := HT.out.drew.take HGs.out HPg.out hb1 ht1; have HT3 : Hid _ := Two.alloc HT2.out HGs.out HPs.out (.cells #[.int .i64 x] 2); have HO2 : Hid _ := Two.rb HT3.out; have HSz2 : Hid (w1.heap.size ≤ wd.heap.size) := Two.size HT2.out; have HNw : Hid ((wd.alloc (.cells #[.int .i64 x] 2)).heap[wd.heap.size]? = some (.cells #[.int .i64 x] 2 (0, 0))) := heap_alloc_new _ _; have cD := (box3_cell (Two.box HT2.out)).2.2; have cE := (box3_cell (Two.box HT3.out)).2.2; clear hb1 ht1))
            all_goals (
              go_wp2_with fail
              go_roundw
              case rel => exact ⟨k + 1, _, t7, _, by go_num, by omega, HFar2, HPd, by rw [iVals_snoc]; exact Two.swap (Two.set HT4.out HPs.out HPg.out 2 _)⟩
              case measure => simp [intOf]; omega)
          · have HL2 : Hid (tList (tEight b) q t5 = (mem, t6)) := fars_end HFar.out hgo
            obtain rfl : k = mem.length := HFar.out.1.symm
            have hcase2 : (mem.length < q ∧ (t6.bad == 0) = false) ∨ ¬ mem.length < q := by
              by_cases hlt : mem.length < q
              · exact Or.inl ⟨hlt, by simpa using fun h => hgo ⟨hlt, h⟩⟩
              · exact Or.inr hlt
            obtain ⟨A1, k1, rfl, -⟩ := own_any (Two.ra HT.out)
            obtain ⟨A2, k2, rfl, -⟩ := own_any (Two.rb HT.out)
            have HTk : Hid (tookI b = ⟨text, ent, mem, tEnd b t6⟩) := tookI_eq HE2.out (by rw [Int.toNat_natCast]; exact HL.out) HE4.out HE5.out (by rw [Int.toNat_natCast]; exact HL2.out)
            have C7 := HCE.out t6 HP6.out wr (HT.out.below HBw.out HWg.out HWP.out) HT.out.tk
            clear hgo HFar HP6 HL2 hk2
            rcases hcase2 with ⟨hlt2, hz2⟩ | hlt2
            all_goals (
              go_wp2_with fail
              refine C7.mono ?_
              rintro r wg ⟨rfl, hb1, ht1⟩
              have HBh : Hid (Below w.heap.size w wg) := hb1.below (HT.out.below HBw.out HWg.out HWP.out) HWg.out
              have HRh : Hid (wg.heap[w.heap.size]? = some (.cells #[.slice none 0 0, .int .i64 0, .slice none 0 0] 25 (0, 0))) := by
                refine but_box hb1 ?_ (by omega)
                rw [HT.out.block w.heap.size (by have := HGs.out; omega) (by omega) (by have := HWP.out; have := HP1'.out; omega)]
                exact HR1.out
              have HXh : Hid (wg.heap[wb.heap.size]? = some (.cells #[.slice A1 text.length k1, .int .i64 ent, .slice A2 mem.length k2] 25 (0, 0))) := but_box hb1 (Two.box HT.out) HPg.out
              have HQh : Hid (RowsI wg w1.heap.size A1 A2 k1 k2 text mem) := RowsI.but ⟨Two.ra HT.out, Two.rb HT.out⟩ hb1 HGs.out
              have Hb7 : Hid (w.heap.size + 2 ≤ w1.heap.size) := by have := HSz.out; have := HP1'.out; show _ ≤ _; omega
              generalize tEnd b t6 = t8 at ht1 HTk
              have y2 := ht1.1.2.2.1
              have y3 := ht1.1.2.2.2
              clear hb1 ht1 C7 HT cB c3
              obtain ⟨e0, e1, e2⟩ := box3_cell HRh.out
              obtain ⟨f0, f1, f2⟩ := box3_fro HRh.out
              by_cases hz8 : t8.bad = 0
              · have hz9 : (t8.bad != 0) = false := by simpa using hz8
                obtain ⟨g0, g1, g2⟩ := box3_cell HXh.out
                have hbad : (tookI b).t.bad = 0 := by rw [HTk.out]; exact hz8
                obtain ⟨-, j1, j2, j3, j4, j5⟩ := tookI_write hA hbad
                rw [HTk.out] at j1 j2 j3 j4 j5
                simp only at j1 j2 j3 j4 j5
                have D := refcheck_any A1 A2 k1 mem.length k2 ent text wg (row_ints HQh.out.r1) (fun i hi => j2 _ (by simp [nth, List.getD, hi])) (by omega) (by omega)
                have HZ8 : Hid _ := hz8
                clear j1 j2 j3 j4 j5 hbad hz8
                by_cases hE : (checkI text mem.length ent).1 = 0
                · have HE : Hid _ := hE
                  rw [check_pair hE] at D
                  go_wp2_with fail
                  refine D.mono ?_
                  rintro e wh ⟨rfl, h5⟩
                  have HBi : Hid (Below w.heap.size w wh) := lb_trans HBh.out h5
                  have HRi : Hid _ := lb_box HRh.out h5
                  have HXi : Hid _ := lb_box HXh.out h5
                  have HQi : Hid (RowsI wh w1.heap.size A1 A2 k1 k2 text mem) := HQh.out.keep h5
                  clear e0 e1 e2 f0 f1 f2 g0 g1 g2 h5 D hE
                  obtain ⟨e0, e1, e2⟩ := box3_cell HRi.out
                  obtain ⟨f0, f1, f2⟩ := box3_fro HRi.out
                  obtain ⟨g0, g1, g2⟩ := box3_cell HXi.out
                  go_wp2_with fail
                  refine bodyPost_ret (v := .tuple #[.agg #[.slice A1 text.length k1, .int .i64 ent, .slice A2 mem.length k2], .int .i64 0, .int .i64 0]) (by simp [results, Tryd.results20, go_sem, e0, e1, e2]) rfl ?_
                  unfold ReadP
                  rw [HTk.out]
                  have hs : w.heap.size < w1.heap.size := by have := Hb7.out; omega
                  exact ⟨((HBi.out.setCell (Nat.le_refl _) _).setCell (Nat.le_refl _) _).setCell (Nat.le_refl _) _, Or.inr (Or.inr ⟨HZ8.out, HE.out, A1, A2, k1, k2, rfl, (((HQi.out.set hs 0 _).set hs 1 _).set hs 2 _).mono (by omega)⟩)⟩
                · have HE : Hid _ := hE
                  have hEb : ((checkI text mem.length ent).1 != 0) = true := by simpa using hE
                  generalize hcE : (checkI text mem.length ent).1 = E at *
                  generalize hcN : (checkI text mem.length ent).2 = Nn at *
                  have hcE : Hid _ := hcE
                  have hcN : Hid _ := hcN
                  go_wp2_with fail
                  refine D.mono ?_
                  rintro e wh ⟨rfl, h5⟩
                  have HBi : Hid (Below w.heap.size w wh) := lb_trans HBh.out h5
                  have HRi : Hid _ := lb_box HRh.out h5
                  clear e0 e1 e2 f0 f1 f2 g0 g1 g2 h5 D hE
                  obtain ⟨e0, e1, e2⟩ := box3_cell HRi.out
                  obtain ⟨f0, f1, f2⟩ := box3_fro HRi.out
                  go_wp2_with fail
                  refine bodyPost_ret (v := .tuple #[.agg #[.slice none 0 0, .int .i64 0, .slice none 0 0], .int .i64 E, .int .i64 Nn]) (by simp [results, Tryd.results20, go_sem, e0, e1, e2]) rfl ?_
                  unfold ReadP
                  rw [HTk.out]
                  refine ⟨((HBi.out.setCell (Nat.le_refl _) _).setCell (Nat.le_refl _) _).setCell (Nat.le_refl _) _, Or.inr (Or.inl ⟨HZ8.out, ?_, ?_⟩)⟩
                  · simp only; rw [hcE.out]; exact HE.out
                  · simp only; rw [hcE.out, hcN.out]
              · have hz9 : (t8.bad != 0) = true := by simpa using hz8
                have HZ8 : Hid _ := hz8
                go_wp2_with fail
                go_region
                all_goals go_wp2_with fail
                all_goals
                  refine bodyPost_ret (v := .tuple #[.agg #[.slice none 0 0, .int .i64 0, .slice none 0 0], .int .i64 t8.bad, .int .i64 t8.place]) (by simp [results, Tryd.results20, go_sem, e0, e1, e2]) rfl ?_
                  unfold ReadP
                  rw [HTk.out]
                  refine ⟨?_, Or.inl ⟨HZ8.out, rfl⟩⟩
                  have hbz := HBh.out
                  repeat' (first | with_reducible assumption | with_reducible refine Below.setCell ?_ ?_ _ | with_reducible refine Below.drew ?_ | exact Nat.le_refl _)))

end Go.Proofs.YtfaekkbblpfbhaaDoor
