/-
  The law RepeatPairs.
-/
import Derived.Test.YtokhclindfipbaaProg
import Derived.WalkKit
import Derived.WalkSpells
import Derived.WalkLawsBesides
import Derived.RowKit3
import Derived.Below
import Derived.Deep.QuietTactic
import Derived.BigQuiet
import Derived.WalkSmall
import Derived.Laws.Rows
import Derived.Test.YtokhclindfipbaaPr50
import Derived.Test.YtokhclindfipbaaPr51
import Derived.Test.YtokhclindfipbaaPr38
import Derived.Test.YtokhclindfipbaaPr41
import Derived.OwnWalk
import Derived.Deep.RegionHeld3
import Derived.Deep.LoopGhost
namespace Go.Proofs.Ytokhclindfipbaa
open Go.RowKit

theorem own_nil5 {w : World} {base e sz n c : Nat} {xs : List Value} (h : w.ownsRow base e sz (.slice none n c) n xs) : c = 0 := by
  rcases h.2 with ⟨e, rfl⟩ | ⟨g, cap, cur, e, _⟩
  · cases e; rfl
  · cases e
set_option maxRecDepth 100000 in
theorem refcheck_far (A1 A2 : Option Addr) (c1 ml c2 : Nat) (ent : Int) (text : List Int) (w : World) (hl : 16384 < text.length ∨ 4096 < ml) :
    Calls Try.prog 4 #[.agg #[.slice A1 text.length c1, .int .i64 ent, .slice A2 ml c2]] w (ChkP (checkI text ml ent).1 (checkI text ml ent).2 w) := by
  by_cases h0 : text.length = 0
  · rw [check0 h0, h0]
    go_enter Try.func4, Try.ntmps4
    go_wp2
    go_ret2
    exact ⟨rfl, lb_alloc (Below.refl _ _) _⟩
  have n0 : ((text.length : Int) == 0) = false := by simpa using h0
  by_cases h1 : 16384 < text.length
  · rw [check1 h0 h1]
    go_enter Try.func4, Try.ntmps4
    go_wp2
    go_ret2
    exact ⟨rfl, lb_alloc (Below.refl _ _) _⟩
  have h2 : 4096 < ml := by omega
  rw [check2 h0 h1 h2]
  go_enter Try.func4, Try.ntmps4
  go_wp2
  go_ret2
  exact ⟨rfl, lb_alloc (Below.refl _ _) _⟩
theorem check_some {text : List Int} {ml : Nat} {ent : Int} (h : (checkI text ml ent).1 = 0) : 0 < text.length := by
  by_cases h0 : text.length = 0
  · rw [check0 h0] at h
    cases h
  · omega
def LawP (w : World) (e : Ending) (w' : World) : Prop := e = .returned (.bool true) ∧ Below w.heap.size w w'
set_option maxRecDepth 100000 in
set_option maxHeartbeats 16000000 in
theorem lawPairs (A1 A2 : Option Addr) (c1 c2 : Nat) (ent : Int) (text mem : List Int) (w : World) (hT : IntsAt w A1 .u32 text) (hM : IntsAt w A2 .i64 mem) (hR : ∀ i, i < text.length → 0 ≤ nth text i ∧ nth text i < 4294967296) (h01 : A1 = none → c1 = 0) (h02 : A2 = none → c2 = 0) :
    Calls Try.prog 3 #[.agg #[.slice A1 text.length c1, .int .i64 ent, .slice A2 mem.length c2]] w fun e w' => e = .returned (.bool true) ∧ Below w.heap.size w w' := by
  obtain ⟨W0, HW⟩ : ∃ W0, Hid (w.alloc (.cells #[.slice A1 text.length c1, .int .i64 ent, .slice A2 mem.length c2] 25) = W0) := ⟨_, rfl⟩
  have HB0 : Hid (Below w.heap.size w W0) := by unfold Hid; rw [← HW.out]; exact lb_alloc (Below.refl _ _) _
  have i0 : W0.cell? ⟨w.heap.size, 0, none⟩ = some (.slice A1 text.length c1) := by rw [← HW.out]; simp [go_sem]
  have i1 : W0.cell? ⟨w.heap.size, 1, none⟩ = some (.int .i64 ent) := by rw [← HW.out]; simp [go_sem]
  have i2 : W0.cell? ⟨w.heap.size, 2, none⟩ = some (.slice A2 mem.length c2) := by rw [← HW.out]; simp [go_sem]
  have LV := fun wx => lives_any wx
  unfold LivP at LV
  have CC : Calls Try.prog 4 #[.agg #[.slice A1 text.length c1, .int .i64 ent, .slice A2 mem.length c2]] W0 (ChkP (checkI text mem.length ent).1 (checkI text mem.length ent).2 W0) := by
    by_cases hf : 16384 < text.length ∨ 4096 < mem.length
    · exact refcheck_far A1 A2 c1 mem.length c2 ent text W0 hf
    · exact refcheck_any A1 A2 c1 mem.length c2 ent text W0 (hT.keep HB0.out) hR (by omega) (by omega)
  have HT0 : Hid (IntsAt W0 A1 .u32 text) := hT.keep HB0.out
  have HM0 : Hid (IntsAt W0 A2 .i64 mem) := hM.keep HB0.out
  have HR : Hid (∀ i, i < text.length → 0 ≤ nth text i ∧ nth text i < 4294967296) := hR
  have HI : Hid (∀ Z, Below W0.heap.size W0 Z → Z.cell? ⟨w.heap.size, 0, none⟩ = some (.slice A1 text.length c1) ∧ Z.cell? ⟨w.heap.size, 1, none⟩ = some (.int .i64 ent) ∧ Z.cell? ⟨w.heap.size, 2, none⟩ = some (.slice A2 mem.length c2)) := fun Z hZ => ⟨lkeep hZ i0, lkeep hZ i1, lkeep hZ i2⟩
  clear hT hM hR
  by_cases hbig : 40 < text.length ∨ 8192 < mem.length ∨ (checkI text mem.length ent).1 ≠ 0
  · unfold ChkP at CC
    generalize (checkI text mem.length ent).1 = E at *
    generalize (checkI text mem.length ent).2 = E2 at *
    go_enter Try.func3, Try.ntmps3
    go_upto_region 1 with fail
    rw [HW.out]
    clear HW
    go_upto_region 2 with (go_at_call 4; refine CC.mono ?_; rintro e W1 ⟨rfl, hb1⟩)
    have HB1 : Hid (Below w.heap.size w W1) := lb_trans HB0.out hb1
    clear i0 i1 i2
    obtain ⟨i0, i1, i2⟩ := HI.out W1 hb1
    clear hb1 CC
    by_cases h1 : 40 < text.length
    · have h1' : (40 : Int) < (text.length : Int) := by omega
      go_wp2_with (go_at_call 5; refine (LV _).mono ?_; rintro e W2 ⟨rfl, hb2⟩)
      go_ret
      exact ⟨rfl, lb_trans HB1.out hb2⟩
    have h1' : ¬ (40 : Int) < (text.length : Int) := by omega
    by_cases h2 : 8192 < mem.length
    · have h2' : (8192 : Int) < (mem.length : Int) := by omega
      go_wp2_with (go_at_call 5; refine (LV _).mono ?_; rintro e W2 ⟨rfl, hb2⟩)
      go_ret
      exact ⟨rfl, lb_trans HB1.out hb2⟩
    have h2' : ¬ (8192 : Int) < (mem.length : Int) := by omega
    have h4 : E ≠ 0 := by omega
    have h3 : (E != 0) = true := by simpa using h4
    go_wp2_with (go_at_call 5; refine (LV _).mono ?_; rintro e W2 ⟨rfl, hb2⟩)
    go_ret
    exact ⟨rfl, lb_trans HB1.out hb2⟩
  have h1 : text.length ≤ 40 := by omega
  have h2 : mem.length ≤ 8192 := by omega
  have h1' : ¬ (40 : Int) < (text.length : Int) := by omega
  have h2' : ¬ (8192 : Int) < (mem.length : Int) := by omega
  have hE : (checkI text mem.length ent).1 = 0 := by omega
  have h0 := check_some hE
  obtain ⟨nm, hnm⟩ : ∃ nm, numL text text.length = nm := ⟨_, rfl⟩
  obtain ⟨en, hen⟩ : ∃ en, enK (begF text ent) text.length = en := ⟨_, rfl⟩
  have hnl : nm.length = text.length := by rw [← hnm, numL_len]
  have HEn : Hid (EnP nm en) := by
    have := enK_ok (f := begF text ent) (nm := nm)
    rw [hnl, hen] at this
    exact this
  have hfew : (eachL nm en).length ≤ 1640 := by
    have := preE_len (nm := nm) (en := en) nm.length
    have h3 : nm.length * (nm.length + 1) ≤ 40 * 41 := Nat.mul_le_mul (by omega) (by omega)
    unfold eachL
    omega
  have CI := fun Z (hZ : Below W0.heap.size W0 Z) => copyimg_any A1 A2 c1 c2 text mem ent Z (HT0.out.keep hZ) (HM0.out.keep hZ) h01 h02 (by omega) (by omega)
  have HG : Hid (∀ (B1 B2 : Option Addr) (k1 k2 : Nat) (Z : World), IntsAt Z B1 .u32 text → Calls Try.prog 6 #[.agg #[.slice B1 text.length k1, .int .i64 ent, .slice B2 mem.length k2], .int .i64 65536] Z (GonP (tdL nm en (eachL nm en)) Z)) := fun B1 B2 k1 k2 Z hB => gone_ok B1 B2 k1 mem.length k2 ent 65536 text Z hB HR.out (by omega) (by omega) hE h0 nm hnm en hen (fun k _ h4 => by omega)
  have HO : Hid (∀ (B1 B2 : Option Addr) (k1 k2 : Nat) (Z : World), IntsAt Z B1 .u32 text → Calls Try.prog 8 #[.agg #[.slice B1 text.length k1, .int .i64 ent, .slice B2 mem.length k2]] Z (NofR text Z)) := fun B1 B2 k1 k2 Z hB => nofOK.ok B1 B2 k1 mem.length k2 ent text Z hB HR.out (by omega) (by omega) hE
  have HBk : Hid (∀ (B1 B2 : Option Addr) (k1 k2 : Nat) (Z : World), IntsAt Z B1 .u32 text → Calls Try.prog 9 #[.agg #[.slice B1 text.length k1, .int .i64 ent, .slice B2 mem.length k2]] Z (BlkP 0 (blkN (begF text ent) text.length) Z)) := fun B1 B2 k1 k2 Z hB => by
    have := blocks_any B1 B2 k1 mem.length k2 ent text Z hB HR.out (by omega) (by omega)
    rw [show outB text mem.length ent = blkN (begF text ent) text.length from if_pos hE, hE] at this
    exact this
  rw [hE] at CC
  have HF0 : Hid (begF text ent 0 = true) := beg_zero text ent
  have HNM : Hid (numL text text.length = nm) := hnm
  have HEN : Hid (enK (begF text ent) text.length = en) := hen
  have HNl : Hid (nm.length = text.length) := hnl
  clear hbig hE hnm hen hnl
  unfold ChkP at CC
  generalize (checkI text mem.length ent).2 = E2 at *
  go_enter Try.func3, Try.ntmps3
  go_upto_region 1 with fail
  rw [HW.out]
  clear HW
  go_upto_region 2 with (go_at_call 4; refine CC.mono ?_; rintro e W1 ⟨rfl, hb1⟩)
  have HB1 : Hid (Below W0.heap.size W0 W1) := hb1
  clear i0 i1 i2
  obtain ⟨i0, i1, i2⟩ := HI.out W1 hb1
  clear hb1 CC
  go_wp2_with fail
  refine (CI _ HB1.out).mono ?_
  rintro e W2 ⟨B1, B2, k1, k2, rfl, hrows, hb2⟩
  have HR2 : Hid (IntsAt W2 B1 .u32 text) := row_ints hrows.r1
  have HB2 : Hid (Below W0.heap.size W0 W2) := lb_trans HB1.out hb2
  clear hrows hb2
  go_wp2_with fail
  refine (HG.out B1 B2 k1 k2 W2 HR2.out).mono ?_
  rintro e W3 ⟨PT, Og, cg, rfl, hfs, hog, hta, hb3⟩
  have HB3 : Hid (Below W0.heap.size W0 W3) := lb_trans HB2.out hb3
  have HTP : Hid (TpsAt W3 Og PT) := tps_of hog hta
  have HFS : Hid (fsts PT = tdL nm en (eachL nm en)) := hfs
  clear hfs hog hta hb3 i0 i1 i2 HG
  obtain ⟨i0, i1, i2⟩ := HI.out W3 HB3.out
  go_wp2_with fail
  refine (CI _ HB3.out).mono ?_
  rintro e W4 ⟨B1', B2', k1', k2', rfl, hrows, hb4⟩
  have HR4 : Hid (IntsAt W4 B1' .u32 text) := row_ints hrows.r1
  have HB4 : Hid (Below W3.heap.size W3 W4) := hb4
  clear hrows hb4
  go_wp2_with fail
  refine (HO.out B1' B2' k1' k2' W4 HR4.out).mono ?_
  rintro e W5 ⟨On, cn, rfl, hon, hb5⟩
  have HB5 : Hid (Below W3.heap.size W3 W5) := lb_trans HB4.out hb5
  have HN5 : Hid (IntsAt W5 On .i64 nm) := row_ints (c := cn) (n := text.length) (by rw [HNl.out, ← HNM.out]; exact hon)
  clear hon hb5 i0 i1 i2 HO
  obtain ⟨i0, i1, i2⟩ := HI.out W5 (lb_trans HB3.out HB5.out)
  go_wp2_with fail
  refine (CI _ (lb_trans HB3.out HB5.out)).mono ?_
  rintro e W6 ⟨B1'', B2'', k1'', k2'', rfl, hrows, hb6⟩
  have HR6 : Hid (IntsAt W6 B1'' .u32 text) := row_ints hrows.r1
  have HB6 : Hid (Below W5.heap.size W5 W6) := hb6
  clear hrows hb6
  go_wp2_with fail
  refine (HBk.out B1'' B2'' k1'' k2'' W6 HR6.out).mono ?_
  rintro e W7 ⟨Ob, cb, rfl, hob, hb7⟩
  have HB7 : Hid (Below W5.heap.size W5 W7) := lb_trans HB6.out hb7
  have HL7 : Hid (RelsAt W7 Ob (blkN (begF text ent) text.length)) := drow_rels hob
  have HB07 : Hid (Below W0.heap.size W0 W7) := lb_trans (lb_trans HB3.out HB5.out) HB7.out
  have HT7 : Hid (TpsAt W7 Og PT) := HTP.out.keep (lb_trans HB5.out HB7.out)
  have HN7 : Hid (IntsAt W7 On .i64 nm) := HN5.out.keep HB7.out
  clear hob hb7 i0 i1 i2 HBk CI HT0 HM0 HTP HN5
  obtain ⟨i0, i1, i2⟩ := HI.out W7 HB07.out
  clear HI HR HB1 HB2 HB3 HB4 HB5 HB6 HB7 HR2 HR4 HR6 HNM
  have HE1 : Hid (text.length ≤ 40) := h1
  obtain ⟨q, hq⟩ : ∃ q, q = (blkN (begF text ent) text.length).length := ⟨_, rfl⟩
  rw [← hq]
  have HQ : Hid (q = (plcT (begF text ent) text.length).length) := hq.trans blkN_len
  have hq40 : q ≤ 40 := by
    have := plcT_len (begF text ent) text.length
    have := HQ.out
    omega
  obtain ⟨bd, hbd⟩ : ∃ bd, bdN (begF text ent) text.length = bd := ⟨_, rfl⟩
  have HD0 : Hid (bd 0 = 0) := by unfold Hid; rw [← hbd]; exact bdN_zero HF0.out
  have HDm : Hid (∀ j, bd j ≤ bd (j + 1)) := fun j => by rw [← hbd]; exact bdN_mono _ _ j
  have HDq : Hid (bd q = nm.length) := by unfold Hid; rw [← hbd, HQ.out, HNl.out]; exact bdN_end _ _
  have HDl : Hid (∀ j, bd j ≤ nm.length) := fun j => by rw [← hbd, HNl.out]; exact bdN_le _ _ j
  have HBl : Hid (∀ b, b < q → ∀ Z, Below W7.heap.size W7 Z → ∃ a : Addr, Ob = some a ∧ Z.cell? (a.add (b * 2)) = some (.int .i64 ((bd b : Nat) : Int)) ∧ Z.cell? ⟨(a.add (b * 2)).block, (a.add (b * 2)).off + 1, none⟩ = some (.int .i64 ((bd (b + 1) : Nat) : Int))) := fun b hb Z hZ => by
    obtain ⟨a, ea, x0, x1⟩ := HL7.out.keep hZ b (by rw [← hq]; exact hb)
    rw [bd_from (by rw [← HQ.out]; exact hb), hbd] at x0
    rw [bd_to (by rw [← HQ.out]; exact hb), hbd] at x1
    exact ⟨a, ea, x0, x1⟩
  have hfs : PT.length ≤ 1640 := by
    have := congrArg List.length HFS.out
    unfold fsts tdL at this
    rw [List.length_map, List.length_map] at this
    omega
  have HPm : Hid (∀ j, j < PT.length → (pth PT j).1 ∈ tdL nm en (eachL nm en)) := fun j hj => by
    rw [← HFS.out]
    exact List.mem_map.2 ⟨_, pth_mem hj, rfl⟩
  have HTD : Hid (∀ j, j < PT.length → 2 ≤ (pth PT j).1.1 ∧ 2 ≤ (pth PT j).1.2.length ∧ (pth PT j).1.2.length ≤ nm.length ∧ (pth PT j).1.1 ≤ nm.length ∧ (pth PT j).1.2.Pairwise fun a b => a < b) := fun j hj => td_each HEn.out (HPm.out j hj)
  have HPR : Hid (∀ b, b < q → ∀ c, c < q → ∀ Z, Below W7.heap.size W7 Z → Calls Try.prog 10 #[.slice Og PT.length cg, .slice On text.length cn, .agg #[.int .i64 ((bd b : Nat) : Int), .int .i64 ((bd (b + 1) : Nat) : Int)], .agg #[.int .i64 ((bd c : Nat) : Int), .int .i64 ((bd (c + 1) : Nat) : Int)]] Z (PrsP (prB nm en bd b c) Z)) := fun b hb c hc Z hZ => by
    have hin : ∀ j, j < q → ∀ i, bd j ≤ i → i < bd (j + 1) → en i = bd (j + 1) := fun j hj i e1 e2 => by
      rw [← hbd] at e1 e2 ⊢
      rw [← HEN.out]
      exact enK_in (by rw [← HQ.out]; exact hj) e1 e2
    have := pairs_any Og On cg cn PT nm en (bd b) (bd (b + 1)) (bd c) (bd (c + 1)) Z (HT7.out.keep hZ) (by omega) (fun j hj => by have := HTD.out j hj; have := HNl.out; have := HE1.out; omega) (HN7.out.keep hZ) (by have := HNl.out; have := HE1.out; omega) HEn.out (HDm.out b) (HDl.out _) (HDm.out c) (HDl.out _) (hin b hb) (hin c hc) (fun n i k e1 e2 e3 e4 e5 => by rw [HFS.out]; exact tog_one HEn.out e1 e2 e3 e4 e5)
    rw [HNl.out] at this
    exact this
  have HAll : Hid (prO nm en bd q q = sqP (tdL nm en (eachL nm en))) := pr_all HEn.out HD0.out HDm.out HDq.out
  have hnm64 : nm.length ≤ 64 := by have := HNl.out; have := HE1.out; omega
  have HPB : Hid (∀ b c, prB nm en bd b c ≤ 262144) := fun b c => prB_few hnm64 HDl.out b c
  have HPI : Hid (∀ b n, n ≤ 64 → prI nm en bd b n ≤ 16777216) := fun b n hn => prI_few hnm64 HDl.out b hn
  have HPO : Hid (∀ n, n ≤ 64 → prO nm en bd q n ≤ 1073741824) := fun n hn => prO_few hnm64 HDl.out (by omega) hn
  have HB7w : Hid (Below w.heap.size w W7) := lb_trans HB0.out HB07.out
  have hti : (text.length : Int) ≤ 40 := by omega
  clear hq hbd HL7 HN7 HF0 HEN HQ HD0 HDm HDq HDl i1 i2 h1 h2 h1' h2' hnm64
  go_wp2
  go_loopw [11, 12] (fun v x wr => ∃ (t b : Nat), v = .int .i64 (t : Int) ∧ x = .int .i64 (b : Int) ∧ b ≤ q ∧ t ≤ 1073741824 ∧ Hid (t = prO nm en bd q b) ∧ Hid (Below W7.heap.size W7 wr)) (fun _ x _ => q - (intOf x).toNat)
  case atStart => exact ⟨0, 0, rfl, rfl, Nat.zero_le _, by omega, rfl, Below.refl _ _⟩
  case round =>
    obtain ⟨t, b, rfl, rfl, hb, ht, HTt, HBr⟩ := hrel
    by_cases hlt : b < q
    · have hlt' : (b : Int) < (q : Int) := by omega
      have hb0 : (0 : Int) ≤ (b : Int) := by omega
      have HT1 : Hid (prO nm en bd q (b + 1) = t + prI nm en bd b q) := by unfold Hid; rw [prO_succ, ← HTt.out]
      have hpo := HPO.out (b + 1) (by omega)
      clear HTt
      go_wp2
      go_loopw [11, 13] (fun v x wr => ∃ (t2 c : Nat), v = .int .i64 (t2 : Int) ∧ x = .int .i64 (c : Int) ∧ c ≤ q ∧ t2 ≤ 1090519040 ∧ Hid (t2 = t + prI nm en bd b c) ∧ Hid (Below W7.heap.size W7 wr)) (fun _ x _ => q - (intOf x).toNat)
      case atStart => exact ⟨t, 0, rfl, rfl, Nat.zero_le _, by omega, rfl, HBr⟩
      case round =>
        clear HBr
        obtain ⟨t2, c, rfl, rfl, hc, ht2, HT2, HBr⟩ := hrel
        by_cases hlt2 : c < q
        · have hlt2' : (c : Int) < (q : Int) := by omega
          have hc0 : (0 : Int) ≤ (c : Int) := by omega
          obtain ⟨a, ea, x0, x1⟩ := HBl.out b hlt wr HBr.out
          subst ea
          obtain ⟨a', ea', y0, y1⟩ := HBl.out c hlt2 wr HBr.out
          cases ea'
          have HQ4 : Hid (∀ Z, Below wr.heap.size wr Z → Z.cell? (a.add (b * 2)) = some (.int .i64 ((bd b : Nat) : Int)) ∧ Z.cell? ⟨(a.add (b * 2)).block, (a.add (b * 2)).off + 1, none⟩ = some (.int .i64 ((bd (b + 1) : Nat) : Int)) ∧ Z.cell? (a.add (c * 2)) = some (.int .i64 ((bd c : Nat) : Int)) ∧ Z.cell? ⟨(a.add (c * 2)).block, (a.add (c * 2)).off + 1, none⟩ = some (.int .i64 ((bd (c + 1) : Nat) : Int))) := fun Z hZ => ⟨lkeep hZ x0, lkeep hZ x1, lkeep hZ y0, lkeep hZ y1⟩
          have HC := fun Z (hZ : Below wr.heap.size wr Z) => HPR.out b hlt c hlt2 Z (lb_trans HBr.out hZ)
          have hpb := HPB.out b c
          have HT3 : Hid (t + prI nm en bd b (c + 1) = t2 + prB nm en bd b c) := by unfold Hid; rw [prI_succ, HT2.out]; omega
          have hpi := HPI.out b (c + 1) (by omega)
          have hb3 : t2 + prB nm en bd b c ≤ 1090519040 := by have := HT3.out; omega
          have BX : Below wr.heap.size wr wr.drew := (Below.refl _ _).drew
          unfold PrsP at HC
          clear HT2 hpi hpb
          generalize prB nm en bd b c = P at *
          generalize bd b = u0 at *
          generalize bd (b + 1) = u1 at *
          generalize bd c = u2 at *
          generalize bd (c + 1) = u3 at *
          go_upto_region 16 with fail
          go_region_held3 (fun Z => Z.cell? (a.add (b * 2)) = some (.int .i64 (u0 : Int)) ∧ Z.cell? ⟨(a.add (b * 2)).block, (a.add (b * 2)).off + 1, none⟩ = some (.int .i64 (u1 : Int)) ∧ Z.cell? (a.add (c * 2)) = some (.int .i64 (u2 : Int)) ∧ Z.cell? ⟨(a.add (c * 2)).block, (a.add (c * 2)).off + 1, none⟩ = some (.int .i64 (u3 : Int))) (first | exact HQ4.out _ (Below.refl _ _) | exact HQ4.out _ (lb_trans BX hb5) | exact HQ4.out _ BX) (first | (go_at_call 10; refine (HC _ BX).mono ?_; rintro e w5 ⟨rfl, hb5⟩))
          have HB5 : Hid (Below W7.heap.size W7 w5) := lb_trans HBr.out (lb_trans BX hb5)
          clear hb5 BX HC HQ4 x0 x1 y0 y1
          go_wp2
          go_roundw
          case rel => exact ⟨t2 + P, c + 1, by go_num, by go_num, by omega, hb3, HT3.out.symm, HB5⟩
          case measure => simp [intOf]; omega
        · obtain rfl : c = q := by omega
          have hlt2' : ¬ (c : Int) < (c : Int) := by omega
          have HT3 : Hid (t2 = prO nm en bd c (b + 1)) := by unfold Hid; rw [HT1.out]; exact HT2.out
          have ht3 : t2 ≤ 1073741824 := by have := HT3.out; omega
          clear HT1 HT2
          go_wp2
          exact ⟨⟨t2, b + 1, rfl, by go_num, by omega, ht3, HT3, HBr⟩, by simp [intOf]; omega⟩
    · obtain rfl : b = q := by omega
      have hlt' : ¬ (b : Int) < (b : Int) := by omega
      have HTs : Hid (t = sqP (fsts PT)) := by
        unfold Hid
        rw [HTt.out, HAll.out, HFS.out]
      have HSQ : Hid (∀ j, sqP (fsts (PT.take j)) ≤ 7000000) := fun j => by
        have h5 := sqP_few (M := 40) (T := fsts (PT.take j)) fun p hp => by
          have hp2 : p ∈ tdL nm en (eachL nm en) := by
            rw [← HFS.out]
            obtain ⟨z, hz, rfl⟩ := List.mem_map.1 hp
            exact List.mem_map.2 ⟨z, List.mem_of_mem_take hz, rfl⟩
          have := (td_each HEn.out hp2).2.2.1
          have := HNl.out
          have := HE1.out
          omega
        have h6 : (fsts (PT.take j)).length ≤ 1640 := by
          unfold fsts
          rw [List.length_map, List.length_take]
          omega
        omega
      clear HTt HAll HPR HBl HPB HPI HPO
      go_wp2
      go_loopw [16, 17] (fun v x wr => ∃ (s j : Nat), v = .int .i64 (s : Int) ∧ x = .int .i64 (j : Int) ∧ j ≤ PT.length ∧ s ≤ 7000000 ∧ Hid (s = sqP (fsts (PT.take j))) ∧ Hid (Below W7.heap.size W7 wr)) (fun _ x _ => PT.length - (intOf x).toNat)
      case atStart => exact ⟨0, 0, rfl, rfl, Nat.zero_le _, by omega, rfl, HBr⟩
      case round =>
        clear HBr
        obtain ⟨s, j, rfl, rfl, hj, hs, HS, HBr⟩ := hrel
        by_cases hlt2 : j < PT.length
        · have hlt2' : (j : Int) < (PT.length : Int) := by omega
          have hj0 : (0 : Int) ≤ (j : Int) := by omega
          obtain ⟨a, ea, x0, x1, x2⟩ := (HT7.out.keep HBr.out) j hlt2
          subst ea
          obtain ⟨t1, t2, t3, t4, t5⟩ := HTD.out j hlt2
          have hs2 := HSQ.out (j + 1)
          have HS2 : Hid (sqP (fsts (PT.take (j + 1))) = s + (pth PT j).1.2.length * ((pth PT j).1.2.length - 1)) := by unfold Hid; rw [fsts_take hlt2, sqP_snoc, ← HS.out]
          unfold tpV at x1
          have HX2 : Hid (IntsAt wr (pth PT j).2.1 .i64 (nV64 (pth PT j).1.2)) := x2
          have HT5 : Hid _ := t5
          obtain ⟨⟨⟨m, L⟩, ⟨O, co⟩⟩, hp⟩ : ∃ p, p = pth PT j := ⟨_, rfl⟩
          rw [← hp] at x0 x1 HX2 HT5 HS2 t1 t2 t3 t4
          have HX3 : Hid (IntsAt wr O .i64 (nV64 L)) := HX2
          have HS3 : Hid (sqP (fsts (PT.take (j + 1))) = s + L.length * (L.length - 1)) := HS2
          have HT6 : Hid (L.Pairwise fun a b => a < b) := HT5
          simp only at x0 x1 t1 t2 t3 t4
          obtain ⟨V, hV⟩ : ∃ V, V = wr := ⟨wr, rfl⟩
          rw [← hV] at x0 x1 HX3 HBr
          subst hV
          obtain ⟨l, hl⟩ : ∃ l, l = L.length := ⟨_, rfl⟩
          have HYL : Hid (∀ h, h < l → ∃ a2 : Addr, O = some a2 ∧ V.cell? (a2.add h) = some (.int .i64 ((snth L h : Nat) : Int))) := fun h hh => by
            obtain ⟨a2, e2, y⟩ := HX3.out h (by rw [nV64_len, ← hl]; exact hh)
            rw [nV64_nth (by rw [← hl]; exact hh)] at y
            exact ⟨a2, e2, y⟩
          have HUP : Hid (∀ h, h + 1 < l → snth L h < snth L (h + 1)) := fun h hh => by
            have := (List.pairwise_iff_getElem.1 HT6.out) h (h + 1) (by omega) (by omega) (by omega)
            simp only [snth, List.getD_eq_getElem?_getD]
            rw [List.getElem?_eq_getElem (by omega), List.getElem?_eq_getElem (by omega)]
            exact this
          obtain ⟨Q, hQ⟩ : ∃ Q, Q = L.length * (L.length - 1) := ⟨_, rfl⟩
          rw [← hQ] at HS3
          rw [← hl] at x1 t2 t3 hQ
          have HQl : Hid (Q = l * (l - 1)) := hQ
          have HlN : Hid (l ≤ 40) := by have := HNl.out; have := HE1.out; unfold Hid; omega
          clear hl hQ HX3 HT6 t3 t4
          have t1' : ¬ (m : Int) < 2 := by omega
          have t2' : ¬ (l : Int) < 2 := by omega
          go_wp2
          go_loopw [18] (fun v wr => ∃ (k d : Nat), v = .int .i64 (k : Int) ∧ 1 ≤ k ∧ k ≤ l ∧ wr = V.drewN d) (fun v _ => l - (intOf v).toNat)
          case atStart => exact ⟨1, 0, rfl, Nat.le_refl _, by omega, rfl⟩
          case round =>
            obtain ⟨k, d, rfl, hk1, hkl, rfl⟩ := hrel
            obtain ⟨p, hp⟩ : ∃ p, k = p + 1 := ⟨k - 1, by omega⟩
            subst hp
            have hp40 : (p : Int) ≤ 40 := by have := HlN.out; omega
            rw [Int.natCast_add]
            by_cases hlt3 : p + 1 < l
            · have hlt3' : (p : Int) + 1 < (l : Int) := by omega
              have hp0 : (p : Int) < (l : Int) := by omega
              have hup := HUP.out p (by omega)
              obtain ⟨a2, e2, y0⟩ := HYL.out p (by omega)
              subst e2
              obtain ⟨a3, e3, y1⟩ := HYL.out (p + 1) hlt3
              cases e3
              generalize snth L p = z0 at *
              generalize snth L (p + 1) = z1 at *
              have y1' : V.cell? ⟨a2.block, a2.off + (p + 1), none⟩ = some (.int .i64 (z1 : Int)) := by
                have h7 := y1
                unfold Addr.add at h7
                rw [if_neg (by omega)] at h7
                exact h7
              have hle : ¬ (z1 : Int) ≤ (z0 : Int) := by omega
              have hp2 : (0 : Int) ≤ (p : Int) := by omega
              have hp3 : (0 : Int) ≤ (p : Int) + 1 := by omega
              have hdl : decide ((z1 : Int) ≤ (z0 : Int)) = false := decide_eq_false hle
              clear hup
              go_wp2_with fail
              go_quiet (fail)
              go_wp2
              go_roundw
              case rel => exact ⟨p + 2, _, by go_num, by omega, by omega, rfl⟩
              case measure => simp [intOf]; omega
            · have hpl : l = p + 1 := by omega
              subst hpl
              have hlt3' : ¬ (p : Int) + 1 < (p : Int) + 1 := by omega
              have hQ2 : ((p : Int) + 1) * (p : Int) = (Q : Int) := by
                rw [HQl.out, show p + 1 - 1 = p by omega, Int.natCast_mul, Int.natCast_add]
                rfl
              have hQ3 : Q ≤ 7000000 := by have := HS3.out; omega
              have hs3 : s + Q ≤ 7000000 := by have := HS3.out; omega
              go_wp2_with fail
              go_quiet (fail)
              go_wp2
              exact ⟨⟨s + Q, j + 1, by go_num, by go_num, by omega, hs3, HS3.out.symm, below_drewN HBr.out _⟩, by simp [intOf]; omega⟩
        · obtain rfl : j = PT.length := by omega
          have hlt2' : ¬ (PT.length : Int) < (PT.length : Int) := by omega
          have hst : s = t := by
            have h8 := HS.out
            rw [List.take_length] at h8
            rw [h8, HTs.out]
          subst hst
          clear HS HTs
          go_wp2_with (go_at_call 5; refine (LV _).mono ?_; rintro e W9 ⟨rfl, hb9⟩)
          go_ret
          exact ⟨rfl, lb_trans (lb_trans HB7w.out HBr.out) hb9⟩

end Go.Proofs.Ytokhclindfipbaa
