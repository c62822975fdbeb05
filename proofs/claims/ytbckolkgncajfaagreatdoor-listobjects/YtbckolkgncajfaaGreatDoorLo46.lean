/-
  The document's text of an object. Object of the document: an object's text, or why there is none.
-/
import Derived.Test.YtbckolkgncajfaaGreatDoorProg
import Derived.WalkKit
import Derived.WalkSpells
import Derived.WalkLawsBesides
import Derived.RowKit3
import Derived.Below
import Derived.Deep.QuietTactic
import Derived.BigQuiet
import Derived.WalkSmall
import Derived.Laws.Rows
import Derived.Test.YtbckolkgncajfaaGreatDoorLo45
import Derived.Deep.DeepCutAuto
import Derived.Deep.RegionHeld3
import Derived.Test.YtbckolkgncajfaaGreatDoorLo35
import Derived.Test.YtbckolkgncajfaaGreatDoorLo31
namespace Go.Proofs.YtbckolkgncajfaaGreatDoor
open Go.RowKit

theorem bs_objnl (nm : ByteArray) : (((⟨#[111, 98, 106, 101, 99, 116, 32]⟩ : ByteArray) ++ nm) ++ ⟨#[10]⟩).data.toList = lineB [objB, nm] := by
  rw [line_sps, sps_one]
  simp [sp, objB]
theorem sz7 (nm : ByteArray) : ((⟨#[111, 98, 106, 101, 99, 116, 32]⟩ : ByteArray) ++ nm).size = 7 + nm.size := by rw [ByteArray.size_append]; rfl
theorem sz1 (x : ByteArray) : (x ++ (⟨#[10]⟩ : ByteArray)).size = x.size + 1 := by rw [ByteArray.size_append]; rfl
/-- Is a line of data told? -/
def hasD (dA : Int) (n : Nat) : Bool := !decide (dA = 0 ∧ n = 0)
theorem hasD_zero {dA : Int} {n : Nat} (h : dA = 0) : hasD dA n = decide (0 < n) := by
  unfold hasD
  by_cases hn : n = 0
  · rw [decide_eq_true ⟨h, hn⟩, decide_eq_false (by omega)]; rfl
  · rw [decide_eq_false (fun hh => hn hh.2), decide_eq_true (by omega)]; rfl
theorem hasD_no {dA : Int} {n : Nat} (h : false = hasD dA n) : dA = 0 ∧ n = 0 := by
  unfold hasD at h
  cases hd : decide (dA = 0 ∧ n = 0) with
  | true => exact of_decide_eq_true hd
  | false => rw [hd] at h; cases h
theorem hasD_yes {dA : Int} {n : Nat} (h : true = hasD dA n) : ¬ (dA = 0 ∧ n = 0) := by
  unfold hasD at h
  cases hd : decide (dA = 0 ∧ n = 0) with
  | true => rw [hd] at h; cases h
  | false => exact of_decide_eq_false hd
set_option maxHeartbeats 8000000 in
set_option maxRecDepth 100000 in
theorem reftext_any (nm : ByteArray) (dA : Int) (A1 A2 A3 A4 : Option Addr) (c1 c2 c3 c4 : Nat) (code data : List Int) (ss : List Sym) (rs : List Rel) (w : World) (h : ObjIn w A1 A2 A3 A4 c4 nm code dA data ss rs) (hm : MayBe nm code dA data.length ss rs) (ht : Tab w) :
    Calls Tryz.prog 58 #[.agg #[.string nm, .slice A1 code.length c1, .int .i64 dA, .slice A2 data.length c2, .slice A3 ss.length c3, .slice A4 rs.length c4]] w fun e w' => e = .returned (.string (bs (objT nm code dA data ss rs))) ∧ Below w.heap.size w w' := by
  obtain ⟨i0, hi, hz0, hz1, hz2⟩ := info5
  have HI : Hid (ObjIn w A1 A2 A3 A4 c4 nm code dA data ss rs) := h
  have HM : Hid (MayBe nm code dA data.length ss rs) := hm
  have HT : Hid (Tab w) := ht
  have H4 : Hid (Obj4 w A1 A2 A3 A4 code dA data ss rs) := may_obj h hm
  have HL : Hid ((objT nm code dA data ss rs).length ≤ 4194304) := may_bound h hm
  have hnm : nm.size ≤ 24 := nameOK_size hm.1.1
  have hcl : code.length ≤ 16384 := hm.1.2.1
  have hsl : ss.length ≤ 256 := hm.1.2.2.1
  have hrl : rs.length ≤ 16384 := by have := hm.1.2.2.2.1; omega
  have hdl : data.length ≤ 4096 := by have := hm.1.2.2.2.2; omega
  obtain ⟨W, hW⟩ : ∃ W, W = w.alloc (.cells #[.string nm, .slice A1 code.length c1, .int .i64 dA, .slice A2 data.length c2, .slice A3 ss.length c3, .slice A4 rs.length c4] 65) := ⟨_, rfl⟩
  have HBW : Hid (Below w.heap.size w W) := by unfold Hid; rw [hW]; exact lb_alloc (Below.refl _ _) _
  have HXW : Hid (W.heap[w.heap.size]? = some (.cells #[.string nm, .slice A1 code.length c1, .int .i64 dA, .slice A2 data.length c2, .slice A3 ss.length c3, .slice A4 rs.length c4] 65 (0, 0))) := by unfold Hid; rw [hW]; exact heap_alloc_new _ _
  have HZW : Hid (w.heap.size < W.heap.size) := by unfold Hid; rw [hW]; simp
  have HW : Hid _ := hW
  have HXx : Hid (∀ wx, Below W.heap.size W wx → wx.heap[w.heap.size]? = some (.cells #[.string nm, .slice A1 code.length c1, .int .i64 dA, .slice A2 data.length c2, .slice A3 ss.length c3, .slice A4 rs.length c4] 65 (0, 0))) := fun wx hx => (hx.block w.heap.size HZW.out).trans HXW.out
  have HBw : Hid (∀ wx, Below W.heap.size W wx → Below w.heap.size w wx) := fun wx hx => lb_trans HBW.out hx
  have HR0 : Hid (W.ownsRow W.heap.size 5 1 (.slice none 0 0) 0 []) := World.ownsRow_nil _ _ _ _
  have HBcur : Hid (Below W.heap.size W W) := Below.refl _ _
  have e7 := sz7 nm
  clear h hm ht hW
  obtain ⟨d0, d1, d2, d3, d4, d5⟩ := box6_cell HXW.out
  go_enter Tryz.func58, Tryz.ntmps58
  go_upto_region 2 with fail
  rw [← HW.out]
  go_upto_region 3 with (at_builtin; refine Lib.wpList_append_own_string _ rfl (.tmp 10) (.tmp 14) 75 9 rfl W.heap.size 5 i0 Tryz.underlying75 Tryz.underlying9 hi hz0 hz1 hz2 (.slice none 0 0) 0 [] rfl HR0.out (((⟨#[111, 98, 106, 101, 99, 116, 32]⟩ : ByteArray) ++ nm) ++ ⟨#[10]⟩) rfl (by rw [sz1, sz7]; unfold maxLen; omega) (by rw [sz1, sz7]; omega) (Nat.le_refl _) ?_; intro v1 w1 hown' hgrow _; have HR1 : Hid (Rb w1 W.heap.size v1 (lineB [objB, nm])) := (by have h1 := Rb.str (l := []) hown'; rwa [List.nil_append, bs_objnl] at h1); have HB1 : Hid (Below W.heap.size W w1) := (Below.refl _ _).grown hgrow (Nat.le_refl _) (fun k hk => by cases hk); clear hown' hgrow)
  have HX1 : Hid _ := HXx.out _ HB1.out
  clear d0 d1 d2 d3 d4 d5 e7 HW HR0 HBcur
  obtain ⟨d0, d1, d2, d3, d4, d5⟩ := box6_cell HX1.out
  obtain ⟨cz, HC⟩ : ∃ cz : Bool, Hid (cz = hasD dA data.length) := ⟨_, rfl⟩
  go_cut [24] (fun t wx => t = .bool cz ∧ wx = w1)
  case first =>
    by_cases hy : dA = 0
    · have hy1 : (dA != 0) = false := by simp [hy]
      have HC2 : Hid (decide (0 < data.length) = cz) := by unfold Hid; rw [HC.out, hasD_zero hy]
      clear hy
      go_wp2
      go_meet
      case rel => exact ⟨congrArg Value.bool HC2.out, rfl⟩
    · have hy1 : (dA != 0) = true := by simp [hy]
      have HC2 : Hid (cz = true) := by unfold Hid; rw [HC.out]; unfold hasD; rw [decide_eq_false (fun hh => hy hh.1)]; rfl
      clear hy
      go_wp2
      go_meet
      case rel => exact ⟨congrArg Value.bool HC2.out.symm, rfl⟩
  case rest =>
    obtain ⟨rfl, ew⟩ := hcut
    have ew' := ew.symm
    clear ew
    subst ew'
    go_upto_if 24 with fail
    go_cut [3] (fun t wx => ∃ (A : Option Addr) (c : Nat), t = .slice A (lineB [objB, nm] ++ dataT dA data).length c ∧ Hid (Rb wx W.heap.size t (lineB [objB, nm] ++ dataT dA data)) ∧ Hid (Below W.heap.size W wx))
    case first =>
      cases cz
      · have HZ : Hid (dataT dA data = []) := by
          unfold Hid dataT
          rw [if_pos (hasD_no HC.out)]
        go_wp2
        go_meet
        case rel =>
          rw [HZ.out, List.append_nil]
          obtain ⟨A, c, e⟩ := HR1.out.form
          exact ⟨A, c, e, HR1.out, HB1.out⟩
      · have HZ : Hid (dataT dA data = lineB (dataL dA data)) := by
          unfold Hid dataT
          rw [if_neg (hasD_yes HC.out)]
        have HF : Hid (lineB [objB, nm] ++ lineB (dataL dA data) = (lineB [objB, nm] ++ (datB.data.toList ++ sp (numB dA))) ++ (sps ((data.drop 0).map numB) ++ [10])) := by
          unfold Hid dataL
          rw [line_sps datB, List.drop_zero, show sps (numB dA :: data.map numB) = sp (numB dA) ++ sps (data.map numB) from rfl]
          simp only [List.append_assoc]
        have HLn : Hid ((lineB [objB, nm] ++ lineB (dataL dA data)).length ≤ 4194304) := by
          have h1 := HL.out
          unfold objT at h1
          rw [HZ.out] at h1
          simp only [List.length_append] at h1
          unfold Hid
          rw [List.length_append]
          omega
        have hsd : (bs (sp (numB dA))).size ≤ 22 := by rw [bs_size, sp_len]; have := numB_size HI.out.da; omega
        have CN := refnum_any dA HI.out.da w1 (HT.out.below (HBw.out _ HB1.out))
        have hpl : (lineB [objB, nm]).length ≤ 4194304 := by have h1 := HLn.out; rw [List.length_append] at h1; omega
        obtain ⟨Av, cv, rfl⟩ := HR1.out.form
        go_wp2_with fail
        refine CN.mono ?_
        rintro e w2 ⟨rfl, hb2⟩
        have HR2 : Hid (w2.ownsRow W.heap.size 5 1 (.slice Av (lineB [objB, nm]).length cv) (lineB [objB, nm]).length (Lib.byteCells (lineB [objB, nm]))) := own_keep HR1.out hb2
        have HB2 : Hid (Below W.heap.size W w2) := lb_trans HB1.out hb2
        clear hb2 CN
        have hs4 : ((⟨#[100, 97, 116, 97]⟩ : ByteArray) ++ bs (sp (numB dA))).size = 4 + (bs (sp (numB dA))).size := by rw [ByteArray.size_append]; rfl
        go_wp2_with (at_builtin; refine Lib.wpList_append_own_string _ rfl (.tmp 25) (.tmp 29) 75 9 rfl W.heap.size 5 i0 Tryz.underlying75 Tryz.underlying9 hi hz0 hz1 hz2 (.slice Av (lineB [objB, nm]).length cv) (lineB [objB, nm]).length (Lib.byteCells (lineB [objB, nm])) rfl HR2.out ((⟨#[100, 97, 116, 97]⟩ : ByteArray) ++ bs (sp (numB dA))) rfl (by rw [hs4]; unfold maxLen; omega) (by rw [hs4]; omega) HB2.out.size ?_; intro v3 w3 hown' hgrow _; have HR3 : Hid (Rb w3 W.heap.size v3 (lineB [objB, nm] ++ (datB.data.toList ++ sp (numB dA)))) := (by have h1 := Rb.str hown'; rwa [show ((⟨#[100, 97, 116, 97]⟩ : ByteArray) ++ bs (sp (numB dA))).data.toList = datB.data.toList ++ sp (numB dA) from by simp [bs, datB]] at h1); have HB3 : Hid (Below W.heap.size W w3) := Rb.below HR2.out HB2.out hgrow; clear hown' hgrow)
        clear hs4 hsd d0 d1 d2 d3 d4 d5
        go_loopw [4, 3] (fun i t wr => ∃ (k : Nat) (A : Option Addr) (c : Nat) (pre : List UInt8), i = .int .i64 k ∧ t = .slice A pre.length c ∧ k ≤ data.length ∧ Hid (Rb wr W.heap.size t pre) ∧ Hid (Below W.heap.size W wr) ∧ Hid (pre ++ (sps ((data.drop k).map numB) ++ [10]) = lineB [objB, nm] ++ lineB (dataL dA data))) (fun i _ _ => data.length - (intOf i).toNat)
        case atStart =>
          obtain ⟨A, c, e⟩ := HR3.out.form
          exact ⟨0, A, c, _, rfl, e, Nat.zero_le _, HR3, HB3, HF.out.symm⟩
        case round =>
          clear HR3 HB3 HF HR2 HB2
          obtain ⟨k, A, c, pre, rfl, rfl, hk, HRr, HBr, HPr⟩ := hrel
          have HXr : Hid _ := HXx.out _ HBr.out
          obtain ⟨d0, d1, d2, d3, d4, d5⟩ := box6_cell HXr.out
          by_cases hlt : k < data.length
          · obtain ⟨a, e2, x1⟩ := HI.out.dt k hlt
            subst e2
            have x2 := lkeep (HBw.out _ HBr.out) x1
            have hnk := HI.out.dr k hlt
            have CN := refnum_any (nth data k) hnk wr (HT.out.below (HBw.out _ HBr.out))
            have hsk : (bs (sp (numB (nth data k)))).size ≤ 22 := by rw [bs_size, sp_len]; have := numB_size hnk; omega
            have HE : Hid (sps ((data.drop k).map numB) = sp (numB (nth data k)) ++ sps ((data.drop (k + 1)).map numB)) := by
              unfold Hid
              rw [drop_at data 0 k hlt, List.map_cons]
              rfl
            have hpl2 : pre.length ≤ 4194304 := by have h1 := HLn.out; rw [← HPr.out] at h1; simp only [List.length_append] at h1; omega
            clear x1 hnk
            go_wp2_with fail
            refine CN.mono ?_
            rintro e w4 ⟨rfl, hb4⟩
            have HR4 : Hid (w4.ownsRow W.heap.size 5 1 (.slice A pre.length c) pre.length (Lib.byteCells pre)) := own_keep HRr.out hb4
            have HB4 : Hid (Below W.heap.size W w4) := lb_trans HBr.out hb4
            clear hb4 CN x2 d0 d1 d2 d3 d4 d5
            go_wp2_with (at_builtin; refine Lib.wpList_append_own_string _ rfl (.tmp 38) (.tmp 44) 75 9 rfl W.heap.size 5 i0 Tryz.underlying75 Tryz.underlying9 hi hz0 hz1 hz2 (.slice A pre.length c) pre.length (Lib.byteCells pre) rfl HR4.out (bs (sp (numB (nth data k)))) rfl (by skip; unfold maxLen; omega) (by skip; omega) HB4.out.size ?_; intro v5 w5 hown' hgrow _; have HR5 : Hid (Rb w5 W.heap.size v5 (pre ++ sp (numB (nth data k)))) := (by have h1 := Rb.str hown'; rwa [show (bs (sp (numB (nth data k)))).data.toList = sp (numB (nth data k)) from by simp [bs]] at h1); have HB5 : Hid (Below W.heap.size W w5) := Rb.below HR4.out HB4.out hgrow; clear hown' hgrow)
            have HP5 : Hid ((pre ++ sp (numB (nth data k))) ++ (sps ((data.drop (k + 1)).map numB) ++ [10]) = lineB [objB, nm] ++ lineB (dataL dA data)) := by
              unfold Hid
              rw [← HPr.out, HE.out]
              simp only [List.append_assoc]
            obtain ⟨A5, c5, e5⟩ := HR5.out.form
            subst e5
            go_roundw
            case rel => exact ⟨k + 1, _, _, _, by go_num, rfl, by omega, HR5, HB5, HP5⟩
            case measure => simp [intOf]; omega
          · obtain rfl : k = data.length := by omega
            have HP6 : Hid (pre ++ [10] = lineB [objB, nm] ++ dataT dA data) := by
              unfold Hid
              rw [HZ.out, ← HPr.out, List.drop_length]
              rfl
            have hpl2 : pre.length ≤ 4194304 := by have h1 := HLn.out; rw [← HPr.out] at h1; simp only [List.length_append] at h1; omega
            have HR6 : Hid ((wr.alloc (.cells #[.int .u8 10] 5)).ownsRow W.heap.size 5 1 (.slice A pre.length c) pre.length (Lib.byteCells pre)) := own_keep HRr.out (lb_alloc (Below.refl _ _) _)
            have HB6 : Hid (Below W.heap.size W (wr.alloc (.cells #[.int .u8 10] 5))) := lb_alloc HBr.out _
            have hsz6 := HBr.out.size
            go_wp2_with (at_builtin; refine wpList_append_own _ rfl (.tmp 46) (.tmp 47) 75 rfl W.heap.size 5 i0 (.int .u8 0) 1 1 Tryz.underlying75 hi hz0 hz1 hz2 rfl (by decide) (.slice A pre.length c) pre.length (Lib.byteCells pre) rfl HR6.out ⟨wr.heap.size, 0, none⟩ 1 1 [.int .u8 10] rfl rfl (fun j u hu => World.news_of_block (heap_alloc_new _ _) j u hu) (fun u hu => by cases hu with | head => rfl | tail _ h => cases h) (by unfold maxLen; omega) (by omega) (by simp; omega) ?_; intro v7 w7 hown' hgrow _; have HR7 : Hid (Rb w7 W.heap.size v7 (lineB [objB, nm] ++ dataT dA data)) := (by unfold Hid; rw [← HP6.out]; unfold Rb; rw [List.length_append, Lib.byteCells_append]; exact hown'); have HB7 : Hid (Below W.heap.size W w7) := Rb.below HR6.out HB6.out hgrow; clear hown' hgrow)
            go_meet
            case rel =>
              obtain ⟨A7, c7, e7⟩ := HR7.out.form
              exact ⟨A7, c7, e7, HR7.out, HB7.out⟩
    case rest =>
      obtain ⟨A, c, rfl, HRd, HBd⟩ := hcut
      have HF0 : Hid ((lineB [objB, nm] ++ dataT dA data) ++ (symT (ss.drop 0) ++ codeT ss rs code 0 0) = objT nm code dA data ss rs) := by unfold Hid objT; rw [List.drop_zero, List.append_assoc]
      generalize lineB [objB, nm] ++ dataT dA data = pd at HRd HF0 ⊢
      clear d0 d1 d2 d3 d4 d5 HX1
      go_wp2
      go_loopw [5, 3] (fun i t wr => ∃ (k : Nat) (A : Option Addr) (c : Nat) (pre : List UInt8), i = .int .i64 k ∧ t = .slice A pre.length c ∧ k ≤ ss.length ∧ Hid (Rb wr W.heap.size t pre) ∧ Hid (Below W.heap.size W wr) ∧ Hid (pre ++ (symT (ss.drop k) ++ codeT ss rs code 0 0) = objT nm code dA data ss rs)) (fun i _ _ => ss.length - (intOf i).toNat)
      case atStart => exact ⟨0, A, c, _, rfl, rfl, Nat.zero_le _, HRd, HBd, HF0⟩
      case round =>
        clear HRd HBd HF0
        obtain ⟨k, A, c, pre, rfl, rfl, hk, HRr, HBr, HPr⟩ := hrel
        have HXr : Hid _ := HXx.out _ HBr.out
        obtain ⟨d0, d1, d2, d3, d4, d5⟩ := box6_cell HXr.out
        by_cases hlt : k < ss.length
        · obtain ⟨a3, e3, s0, s1, s2⟩ := H4.out.sy k hlt
          subst e3
          have t0 := lkeep (HBw.out _ HBr.out) s0
          have t1 : wr.cell? ⟨(a3.add (k * 3)).block, (a3.add (k * 3)).off + 1, none⟩ = some (.int .i8 (sKind ss k)) := lkeep (HBw.out _ HBr.out) s1
          have t2 : wr.cell? ⟨(a3.add (k * 3)).block, (a3.add (k * 3)).off + 2, none⟩ = some (.int .i64 (sAt ss k)) := lkeep (HBw.out _ HBr.out) s2
          have HE : Hid (symT (ss.drop k) = lineB (symL (sName ss k, sKind ss k, sAt ss k)) ++ symT (ss.drop (k + 1))) := symT_step hlt
          have hkd := H4.out.kd k hlt
          have CK := fun wx => refkind_any (sKind ss k) hkd.1 hkd.2 wx
          have hks := kindB_size (sKind ss k)
          have hns := may_name HM.out k
          have hpl : pre.length ≤ 4194304 := by have h1 := HL.out; rw [← HPr.out] at h1; simp only [List.length_append] at h1; omega
          have hpl2 : pre.length + (lineB (symL (sName ss k, sKind ss k, sAt ss k))).length ≤ 4194304 := by have h1 := HL.out; rw [← HPr.out, HE.out] at h1; simp only [List.length_append] at h1; omega
          have hsa := H4.out.sa k hlt
          have HSa : Hid (In64 (sAt ss k)) := hsa
          have hsn : (bs (sp (numB (sAt ss k)))).size ≤ 22 := by rw [bs_size, sp_len]; have := numB_size hsa; omega
          obtain ⟨V, hV⟩ : ∃ V, V = wr.alloc (.cells #[.string (sName ss k), .int .i8 (sKind ss k), .int .i64 (sAt ss k)] 69) := ⟨_, rfl⟩
          have HBV : Hid (Below wr.heap.size wr V) := by unfold Hid; rw [hV]; exact lb_alloc (Below.refl _ _) _
          have HBV2 : Hid (Below W.heap.size W V.drew) := (lb_trans HBr.out HBV.out).drew
          have hXV : V.heap[wr.heap.size]? = some (.cells #[.string (sName ss k), .int .i8 (sKind ss k), .int .i64 (sAt ss k)] 69 (0, 0)) := by rw [hV]; exact heap_alloc_new _ _
          have HRV : Hid (V.drew.ownsRow W.heap.size 5 1 (.slice A pre.length c) pre.length (Lib.byteCells pre)) := (show V.ownsRow W.heap.size 5 1 (.slice A pre.length c) pre.length (Lib.byteCells pre) from own_keep HRr.out HBV.out)
          have HNE : Hid ((Value.slice A pre.length c).ownBlock ≠ some wr.heap.size) := HRr.out.ne (Or.inr (Nat.le_refl _))
          obtain ⟨b0, b1, b2⟩ := box3_cell hXV
          have HV : Hid _ := hV
          have hq1 : ¬ 9223372036854775807 < (kindB (sKind ss k)).size + 1 := by omega
          have hsz1 : (kindB (sKind ss k) ++ (⟨#[32]⟩ : ByteArray)).size = (kindB (sKind ss k)).size + 1 := by rw [ByteArray.size_append]; rfl
          have hq2 : ¬ 9223372036854775807 < (kindB (sKind ss k) ++ (⟨#[32]⟩ : ByteArray)).size + (sName ss k).size := by rw [hsz1]; omega
          have hq3 : ¬ 9223372036854775807 < (kindB (sKind ss k)).size + 1 + (sName ss k).size := by omega
          have hsz2 : ((kindB (sKind ss k) ++ (⟨#[32]⟩ : ByteArray)) ++ sName ss k).size = (kindB (sKind ss k)).size + 1 + (sName ss k).size := by rw [ByteArray.size_append, hsz1]
          have HSZ2 : Hid _ := hsz2
          have HS1 : Hid (((kindB (sKind ss k) ++ (⟨#[32]⟩ : ByteArray)) ++ sName ss k).data.toList = (kindB (sKind ss k)).data.toList ++ sp (sName ss k)) := by unfold Hid; simp [sp]
          clear s0 s1 s2 hkd hsa hsz1 hsz2 hV
          go_upto_region 14 with fail
          rw [← HV.out]
          clear t0 t1 t2 HV
          go_region_held3 (fun X => X.cell? ⟨wr.heap.size, 0, none⟩ = some (.string (sName ss k)) ∧ X.cell? ⟨wr.heap.size, 1, none⟩ = some (.int .i8 (sKind ss k)) ∧ X.cell? ⟨wr.heap.size, 2, none⟩ = some (.int .i64 (sAt ss k))) (first | (refine ⟨grown_keep hgrow ?_ HNE.out, grown_keep hgrow ?_ HNE.out, grown_keep hgrow ?_ HNE.out⟩ <;> (simp [*]; done)) | (simp [*]; done))
            (first
              | (go_at_call 89; refine (CK _).mono ?_; rintro e w4 ⟨rfl, rfl⟩)
              | (refine step_append_str _ rfl (.tmp 61) (.tmp 68) 75 9 rfl W.heap.size 5 i0 Tryz.underlying75 Tryz.underlying9 hi hz0 hz1 hz2 (.slice A pre.length c) pre.length (Lib.byteCells pre) rfl HRV.out ((kindB (sKind ss k) ++ ⟨#[32]⟩) ++ sName ss k) rfl (by rw [HSZ2.out]; unfold maxLen; omega) (by rw [HSZ2.out]; omega) HBV2.out.size ?_; intro v6 w6 hown' hgrow))
          have HR6 : Hid (Rb w6 W.heap.size v6 (pre ++ ((kindB (sKind ss k)).data.toList ++ sp (sName ss k)))) := by have h1 := Rb.str hown'; rwa [HS1.out] at h1
          have HB6 : Hid (Below W.heap.size W w6) := Rb.below HRV.out HBV2.out hgrow
          rename_i hS'
          obtain ⟨b0, b1, b2⟩ := hS'
          obtain ⟨A6, c6, e6⟩ := HR6.out.form
          subst e6
          clear hown' hgrow CK
          have hp1 : (pre ++ ((kindB (sKind ss k)).data.toList ++ sp (sName ss k))).length ≤ 4194404 := by
            simp only [List.length_append, sp_len]
            have : (kindB (sKind ss k)).data.toList.length ≤ 24 := hks
            omega
          by_cases h3 : sKind ss k = 3
          · have h3' : (sKind ss k != 3) = false := by simp [h3]
            have HE2 : Hid (pre ++ lineB (symL (sName ss k, sKind ss k, sAt ss k)) = (pre ++ ((kindB (sKind ss k)).data.toList ++ sp (sName ss k))) ++ [10]) := by
              unfold Hid symL
              simp only []
              rw [if_pos h3, List.append_nil, line_sps, sps_one]
              simp only [List.append_assoc]
            clear h3
            generalize (pre ++ ((kindB (sKind ss k)).data.toList ++ sp (sName ss k))) = p1 at HR6 hp1 HE2 ⊢
            have HRn : Hid ((w6.alloc (.cells #[.int .u8 10] 5)).ownsRow W.heap.size 5 1 (.slice A6 p1.length c6) p1.length (Lib.byteCells p1)) := own_keep HR6.out (lb_alloc (Below.refl _ _) _)
            have HBn : Hid (Below W.heap.size W (w6.alloc (.cells #[.int .u8 10] 5))) := lb_alloc HB6.out _
            go_wp2_with (at_builtin; refine wpList_append_own _ rfl (.tmp 78) (.tmp 79) 75 rfl W.heap.size 5 i0 (.int .u8 0) 1 1 Tryz.underlying75 hi hz0 hz1 hz2 rfl (by decide) (.slice A6 p1.length c6) p1.length (Lib.byteCells p1) rfl HRn.out ⟨w6.heap.size, 0, none⟩ 1 1 [.int .u8 10] rfl rfl (fun j u hu => World.news_of_block (heap_alloc_new _ _) j u hu) (fun u hu => by cases hu with | head => rfl | tail _ h => cases h) (by unfold maxLen; omega) (by omega) HBn.out.size ?_; intro v8 w8 hown' hgrow _; have HR8 : Hid (Rb w8 W.heap.size v8 (p1 ++ [10])) := (by unfold Hid Rb; rw [List.length_append, Lib.byteCells_append]; exact hown'); have HB8 : Hid (Below W.heap.size W w8) := Rb.below HRn.out HBn.out hgrow; clear hown' hgrow)
            have HP8 : Hid ((p1 ++ [10]) ++ (symT (ss.drop (k + 1)) ++ codeT ss rs code 0 0) = objT nm code dA data ss rs) := by
              unfold Hid
              rw [← HE2.out, ← HPr.out, HE.out]
              simp only [List.append_assoc]
            obtain ⟨A8, c8, e8⟩ := HR8.out.form
            subst e8
            clear b0 b1 b2 d0 d1 d2 d3 d4 d5
            go_roundw
            case rel => exact ⟨k + 1, _, _, _, by go_num, rfl, by omega, HR8, HB8, HP8⟩
            case measure => simp [intOf]; omega
          · have h3' : (sKind ss k != 3) = true := by simp [h3]
            have HE2 : Hid (pre ++ lineB (symL (sName ss k, sKind ss k, sAt ss k)) = ((pre ++ ((kindB (sKind ss k)).data.toList ++ sp (sName ss k))) ++ sp (numB (sAt ss k))) ++ [10]) := by
              unfold Hid symL
              simp only []
              rw [if_neg h3]
              show pre ++ lineB (kindB (sKind ss k) :: ([sName ss k] ++ [numB (sAt ss k)])) = _
              rw [line_sps, sps_app, sps_one, sps_one]
              simp only [List.append_assoc]
            have CN := refnum_any (sAt ss k) HSa.out w6 (HT.out.below (HBw.out _ HB6.out))
            clear h3
            generalize (pre ++ ((kindB (sKind ss k)).data.toList ++ sp (sName ss k))) = p1 at HR6 hp1 HE2 ⊢
            go_wp2_with fail
            refine CN.mono ?_
            rintro e w7 ⟨rfl, hb7⟩
            have HR7 : Hid (w7.ownsRow W.heap.size 5 1 (.slice A6 p1.length c6) p1.length (Lib.byteCells p1)) := own_keep HR6.out hb7
            have HB7 : Hid (Below W.heap.size W w7) := lb_trans HB6.out hb7
            clear hb7 CN b0 b1 b2
            go_upto_region 17 with (at_builtin; refine Lib.wpList_append_own_string _ rfl (.tmp 73) (.tmp 76) 75 9 rfl W.heap.size 5 i0 Tryz.underlying75 Tryz.underlying9 hi hz0 hz1 hz2 (.slice A6 p1.length c6) p1.length (Lib.byteCells p1) rfl HR7.out (bs (sp (numB (sAt ss k)))) rfl (by skip; unfold maxLen; omega) (by skip; omega) HB7.out.size ?_; intro v9 w9 hown' hgrow _; have HR9 : Hid (Rb w9 W.heap.size v9 (p1 ++ sp (numB (sAt ss k)))) := (by have h1 := Rb.str hown'; rwa [show (bs (sp (numB (sAt ss k)))).data.toList = sp (numB (sAt ss k)) from by simp [bs]] at h1); have HB9 : Hid (Below W.heap.size W w9) := Rb.below HR7.out HB7.out hgrow; clear hown' hgrow)
            obtain ⟨A9, c9, e9⟩ := HR9.out.form
            subst e9
            have hp2 : (p1 ++ sp (numB (sAt ss k))).length ≤ 4194504 := by
              rw [List.length_append, sp_len]
              have := numB_size HSa.out
              omega
            generalize p1 ++ sp (numB (sAt ss k)) = p2 at HR9 HE2 hp2 ⊢
            have HRn : Hid ((w9.alloc (.cells #[.int .u8 10] 5)).ownsRow W.heap.size 5 1 (.slice A9 p2.length c9) p2.length (Lib.byteCells p2)) := own_keep HR9.out (lb_alloc (Below.refl _ _) _)
            have HBn : Hid (Below W.heap.size W (w9.alloc (.cells #[.int .u8 10] 5))) := lb_alloc HB9.out _
            go_wp2_with (at_builtin; refine wpList_append_own _ rfl (.tmp 78) (.tmp 79) 75 rfl W.heap.size 5 i0 (.int .u8 0) 1 1 Tryz.underlying75 hi hz0 hz1 hz2 rfl (by decide) (.slice A9 p2.length c9) p2.length (Lib.byteCells p2) rfl HRn.out ⟨w9.heap.size, 0, none⟩ 1 1 [.int .u8 10] rfl rfl (fun j u hu => World.news_of_block (heap_alloc_new _ _) j u hu) (fun u hu => by cases hu with | head => rfl | tail _ h => cases h) (by unfold maxLen; omega) (by omega) HBn.out.size ?_; intro v8 w8 hown' hgrow _; have HR8 : Hid (Rb w8 W.heap.size v8 (p2 ++ [10])) := (by unfold Hid Rb; rw [List.length_append, Lib.byteCells_append]; exact hown'); have HB8 : Hid (Below W.heap.size W w8) := Rb.below HRn.out HBn.out hgrow; clear hown' hgrow)
            have HP8 : Hid ((p2 ++ [10]) ++ (symT (ss.drop (k + 1)) ++ codeT ss rs code 0 0) = objT nm code dA data ss rs) := by
              unfold Hid
              rw [← HE2.out, ← HPr.out, HE.out]
              simp only [List.append_assoc]
            obtain ⟨A8, c8, e8⟩ := HR8.out.form
            subst e8
            clear b0 b1 b2 d0 d1 d2 d3 d4 d5
            go_roundw
            case rel => exact ⟨k + 1, _, _, _, by go_num, rfl, by omega, HR8, HB8, HP8⟩
            case measure => simp [intOf]; omega
        · obtain rfl : k = ss.length := by omega
          have HP0 : Hid (pre ++ codeT ss rs (code.drop 0) 0 0 = objT nm code dA data ss rs) := by
            unfold Hid
            rw [← HPr.out, symT_end, List.drop_zero]
            rfl
          clear HPr
          go_wp2
          go_loopw [8, 7, 3] (fun i j t wr => ∃ (k r : Nat) (A : Option Addr) (c : Nat) (pre : List UInt8), i = .int .i64 k ∧ j = .int .i64 r ∧ t = .slice A pre.length c ∧ k ≤ code.length ∧ r ≤ rs.length ∧ Hid (Rb wr W.heap.size t pre) ∧ Hid (Below W.heap.size W wr) ∧ Hid (pre ++ codeT ss rs (code.drop k) k r = objT nm code dA data ss rs)) (fun i _ _ _ => code.length - (intOf i).toNat)
          case atStart => exact ⟨0, 0, A, c, pre, rfl, rfl, rfl, Nat.zero_le _, Nat.zero_le _, HRr, HBr, HP0⟩
          case round =>
            clear d0 d1 d2 d3 d4 d5 HRr HBr HP0
            obtain ⟨k, r, A, c, pre, rfl, rfl, rfl, hk, hr, HRr, HBr, HPr⟩ := hrel
            have HXr : Hid _ := HXx.out _ HBr.out
            obtain ⟨d0, d1, d2, d3, d4, d5⟩ := box6_cell HXr.out
            have hpl : pre.length ≤ 4194304 := by have h1 := HL.out; rw [← HPr.out] at h1; simp only [List.length_append] at h1; omega
            by_cases hlt : k < code.length
            · obtain ⟨a1, e1, x1⟩ := H4.out.cd k hlt
              subst e1
              have x2 := lkeep (HBw.out _ HBr.out) x1
              have hvr := H4.out.range k hlt
              clear x1
              by_cases hrel : r < rs.length ∧ rAt rs r = k
              · obtain ⟨hr0, he⟩ := hrel
                have hrp := rel_parts.1 (HM.out.2.2.1 r hr0)
                have hTk : isT (nth code k) = true := by have h1 := hrp.2.2.2.2.2.1; rwa [he, Int.toNat_natCast] at h1
                obtain ⟨a4, e4, y1, y2⟩ := H4.out.rl r hr0
                obtain ⟨a3, e3, s0, s1, s2⟩ := H4.out.sy (rSym rs r).toNat (by have := H4.out.sym r hr0; omega)
                subst e4 e3
                have HE : Hid (codeT ss rs (code.drop k) k r = lineB (lastB (wordsL (nth code k)) (sName ss (rSym rs r).toNat)) ++ codeT ss rs (code.drop (k + 1)) (k + 1) (r + 1)) := codeT_rel hlt hr0 he
                have HLw : Hid _ := last_words hTk (sName ss (rSym rs r).toNat)
                obtain ⟨hfd, hfa, hfb, hfn⟩ := d_in hvr.1 hvr.2
                have CD := refdecode_any (nth code k) hvr.1 hvr.2 wr
                have CF := fun wx (hx : Below w.heap.size w wx) => reffields_any (dOp (nth code k)) (dD (nth code k)) (Go.Proofs.YtbckolkgncajfaaGreatDoor.dA (nth code k)) (dB (nth code k)) (dN (nth code k)) hfd hfa hfb wx (HT.out.below hx)
                have CNm := fun wx => refopname_any (dOp (nth code k)) wx
                have hq0 : (nameB (dOp (nth code k))).size ≤ 8 := name_len
                have hsf : (bs (sps (fl (hD (dOp (nth code k))) (hA (dOp (nth code k))) (hB (dOp (nth code k))) (dD (nth code k)) (Go.Proofs.YtbckolkgncajfaaGreatDoor.dA (nth code k)) (dB (nth code k))))).size ≤ 88 := by
                  rw [bs_size]
                  have a := sps_len (ws := fieldsL (nth code k)) (fun x hx => fieldsL_size hvr.1 hvr.2 x (by simp [hx]))
                  have b := fieldsL_len (nth code k)
                  rw [List.length_append] at b
                  show (sps (fieldsL (nth code k))).length ≤ 88
                  omega
                have hsn := may_name HM.out (rSym rs r).toNat
                have he' : (rAt rs r == (k : Int)) = true := by simpa using he
                have hs0 : 0 ≤ rSym rs r := (H4.out.sym r hr0).1
                have hs1 : rSym rs r < (ss.length : Int) := (H4.out.sym r hr0).2
                have z1 := lkeep (HBw.out _ HBr.out) y1
                clear he hrp hTk hfd hfa hfb hfn s1 s2
                generalize fl (hD (dOp (nth code k))) (hA (dOp (nth code k))) (hB (dOp (nth code k))) (dD (nth code k)) (Go.Proofs.YtbckolkgncajfaaGreatDoor.dA (nth code k)) (dB (nth code k)) = FL at HLw CF hsf
                generalize nameB (dOp (nth code k)) = nmo at HLw CNm hq0
                generalize dOp (nth code k) = op at CD CF CNm
                generalize dD (nth code k) = fd at CD CF
                generalize Go.Proofs.YtbckolkgncajfaaGreatDoor.dA (nth code k) = fa at CD CF
                generalize dB (nth code k) = fb at CD CF
                generalize dN (nth code k) = fn at CD CF
                generalize hSN : sName ss (rSym rs r).toNat = sn at s0 hsn HE HLw
                have HSN : Hid _ := hSN
                clear hSN
                go_wp2_with fail
                refine CD.mono ?_
                rintro e w4 ⟨rfl, hb4⟩
                obtain ⟨V, hV⟩ : ∃ V, V = w4.alloc (.cells #[.int .i8 op, .int .i8 fd, .int .i8 fa, .int .i8 fb, .int .i64 fn] 95) := ⟨_, rfl⟩
                have HBV : Hid (Below wr.heap.size wr V) := by unfold Hid; rw [hV]; exact lb_alloc hb4 _
                have hBV2 : Below W.heap.size W V := lb_trans HBr.out HBV.out
                have HBV2 : Hid (Below W.heap.size W V.drew) := hBV2.drew
                have hXV : V.heap[w4.heap.size]? = some (.cells #[.int .i8 op, .int .i8 fd, .int .i8 fa, .int .i8 fb, .int .i64 fn] 95 (0, 0)) := by rw [hV]; exact heap_alloc_new _ _
                have HRV : Hid (V.drew.ownsRow W.heap.size 5 1 (.slice A pre.length c) pre.length (Lib.byteCells pre)) := (show V.ownsRow W.heap.size 5 1 (.slice A pre.length c) pre.length (Lib.byteCells pre) from own_keep HRr.out HBV.out)
                have hS4 := hb4.size
                have N1 : Hid ((Value.slice A pre.length c).ownBlock ≠ some w4.heap.size) := HRr.out.ne (Or.inr hS4)
                have N2 : Hid ((Value.slice A pre.length c).ownBlock ≠ some w.heap.size) := HRr.out.ne (Or.inl HZW.out)
                have N3 : Hid ((Value.slice A pre.length c).ownBlock ≠ some (a4.add (r * 2)).block) := HRr.out.ne (Or.inl (by have := World.block_lt_of_cell? w _ y1; have := HZW.out; omega))
                have N4 : Hid ((Value.slice A pre.length c).ownBlock ≠ some (a3.add ((rSym rs r).toNat * 3)).block) := HRr.out.ne (Or.inl (by have := World.block_lt_of_cell? w _ s0; have := HZW.out; omega))
                have NL : Hid (∀ k, (Value.slice A pre.length c).ownBlock = some k → w.heap.size ≤ k) := fun k hk => by have := (HRr.out.lt k hk).1; have := HZW.out; omega
                obtain ⟨b0, b1, b2, b3, b4⟩ := box5_cell hXV
                obtain ⟨o0, o1, o2, o3, o4, o5⟩ := box6_cell (HXx.out _ hBV2)
                have BV : Below w.heap.size w V.drew := (HBw.out _ hBV2).drew
                have r1 : V.cell? ⟨(a4.add (r * 2)).block, (a4.add (r * 2)).off + 1, none⟩ = some (.int .i64 (rSym rs r)) := lkeep (HBw.out _ hBV2) y2
                have n1 : V.cell? (a3.add ((rSym rs r).toNat * 3)) = some (.string sn) := lkeep (HBw.out _ hBV2) s0
                have HV : Hid _ := hV
                have g1 : ¬ 9223372036854775807 < nmo.size + (bs (sps FL)).size := by omega
                have g2 : ¬ 9223372036854775807 < nmo.size + (bs (sps FL)).size + 1 := by omega
                have g3 : ¬ 9223372036854775807 < nmo.size + (bs (sps FL)).size + 1 + sn.size := by omega
                have g4 : ¬ 9223372036854775807 < nmo.size + (bs (sps FL)).size + 1 + sn.size + 1 := by omega
                have HSz : Hid ((((nmo ++ bs (sps FL)) ++ (⟨#[32]⟩ : ByteArray)) ++ sn ++ (⟨#[10]⟩ : ByteArray)).size = nmo.size + (bs (sps FL)).size + 1 + sn.size + 1) := by
                  unfold Hid
                  rw [ByteArray.size_append, ByteArray.size_append, ByteArray.size_append, ByteArray.size_append]
                  rfl
                have HS1 : Hid ((((nmo ++ bs (sps FL)) ++ (⟨#[32]⟩ : ByteArray)) ++ sn ++ (⟨#[10]⟩ : ByteArray)).data.toList = lineB (lastB (wordsL (nth code k)) sn)) := by
                  unfold Hid
                  rw [HLw.out]
                  simp [bs, sp]
                clear y1 y2 s0 hb4 CD hV hXV z1 d0 d1 d2 d3 d4 d5 x2
                go_upto_region 24 with fail
                rw [← HV.out]
                clear HV
                go_region_held3 (fun X => Below w.heap.size w X ∧ X.cell? ⟨w4.heap.size, 0, none⟩ = some (.int .i8 op) ∧ X.cell? ⟨w4.heap.size, 1, none⟩ = some (.int .i8 fd) ∧ X.cell? ⟨w4.heap.size, 2, none⟩ = some (.int .i8 fa) ∧ X.cell? ⟨w4.heap.size, 3, none⟩ = some (.int .i8 fb) ∧ X.cell? ⟨w4.heap.size, 4, none⟩ = some (.int .i64 fn) ∧ X.cell? ⟨w.heap.size, 4, none⟩ = some (.slice (some a3) ss.length c3) ∧ X.cell? ⟨w.heap.size, 5, none⟩ = some (.slice (some a4) rs.length c4) ∧ X.cell? ⟨(a4.add (r * 2)).block, (a4.add (r * 2)).off + 1, none⟩ = some (.int .i64 (rSym rs r)) ∧ X.cell? (a3.add ((rSym rs r).toNat * 3)) = some (.string sn))
                  (first | (refine ⟨Below.grown ?_ hgrow ?_ NL.out, grown_keep hgrow ?_ N1.out, grown_keep hgrow ?_ N1.out, grown_keep hgrow ?_ N1.out, grown_keep hgrow ?_ N1.out, grown_keep hgrow ?_ N1.out, grown_keep hgrow ?_ N2.out, grown_keep hgrow ?_ N2.out, grown_keep hgrow ?_ N3.out, grown_keep hgrow ?_ N4.out⟩ <;> (simp [*]; done)) | (refine ⟨lb_trans ?_ hb, lkeep hb ?_, lkeep hb ?_, lkeep hb ?_, lkeep hb ?_, lkeep hb ?_, lkeep hb ?_, lkeep hb ?_, lkeep hb ?_, lkeep hb ?_⟩ <;> (simp [*]; done)) | (simp [*]; done))
                  (first
                    | (go_at_call 61; refine (CNm _).mono ?_; rintro e w5 ⟨rfl, rfl⟩)
                    | (go_at_call 62; refine (CF _ (by first | assumption | exact (‹Below _ _ _ ∧ _›).1)).mono ?_; rintro e w5 ⟨rfl, hb⟩; have HRW : Hid (w5.ownsRow W.heap.size 5 1 (.slice A pre.length c) pre.length (Lib.byteCells pre)) := own_keep HRV.out hb; have HBW5 : Hid (Below W.heap.size W w5) := lb_trans HBV2.out hb; have hz5 : w.heap.size ≤ w5.heap.size := Nat.le_trans BV.size hb.size)
                    | (revert HRW; intro HRW; refine step_append_str _ rfl (.tmp 109) (.tmp 129) 75 9 rfl W.heap.size 5 i0 Tryz.underlying75 Tryz.underlying9 hi hz0 hz1 hz2 (.slice A pre.length c) pre.length (Lib.byteCells pre) rfl HRW.out (((nmo ++ bs (sps FL)) ++ ⟨#[32]⟩) ++ sn ++ ⟨#[10]⟩) rfl (by rw [HSz.out]; unfold maxLen; omega) (by rw [HSz.out]; omega) HBW5.out.size ?_; intro v6 w6 hown' hgrow))
                have HR6 : Hid (Rb w6 W.heap.size v6 (pre ++ lineB (lastB (wordsL (nth code k)) sn))) := by
                  have h1 := Rb.str hown'
                  rwa [HS1.out] at h1
                have HB6 : Hid (Below W.heap.size W w6) := Rb.below HRW.out HBW5.out hgrow
                clear hown' hgrow
                have HP6 : Hid ((pre ++ lineB (lastB (wordsL (nth code k)) sn)) ++ codeT ss rs (code.drop (k + 1)) (k + 1) (r + 1) = objT nm code dA data ss rs) := by
                  unfold Hid
                  rw [← HPr.out, HE.out, List.append_assoc]
                obtain ⟨A6, c6, e6⟩ := HR6.out.form
                subst e6
                try clear b0 b1 b2 b3 b4 o0 o1 o2 o3 o4 o5 r1 n1
                go_wp2
                go_roundw
                case rel => exact ⟨k + 1, r + 1, _, _, _, by go_num, by go_num, rfl, by omega, by omega, HR6, HB6, HP6⟩
                case measure => simp [intOf]; omega
              · have HE : Hid (codeT ss rs (code.drop k) k r = lineB (wordsL (nth code k)) ++ codeT ss rs (code.drop (k + 1)) (k + 1) r) := codeT_no hlt hrel
                have CI := refins_any (nth code k) hvr.1 hvr.2 wr (HT.out.below (HBw.out _ HBr.out))
                have hll := lineL_len hvr.1 hvr.2
                have hls : (bs (lineL (nth code k))).size ≤ 100 := by rw [bs_size]; exact hll
                have hsz := sz1 (bs (lineL (nth code k)))
                have HSz : Hid _ := hsz
                have HS1 : Hid ((bs (lineL (nth code k)) ++ (⟨#[10]⟩ : ByteArray)).data.toList = lineB (wordsL (nth code k))) := by unfold Hid; rw [line_words]; simp [bs]
                have hcase : (r < rs.length ∧ ¬ rAt rs r = k) ∨ ¬ r < rs.length := by
                  by_cases hr0 : r < rs.length
                  · exact Or.inl ⟨hr0, fun e => hrel ⟨hr0, e⟩⟩
                  · exact Or.inr hr0
                clear hrel hsz hll
                rcases hcase with ⟨hr0, he⟩ | hr0
                · obtain ⟨a4, e4, y1, y2⟩ := H4.out.rl r hr0
                  subst e4
                  have z1 := lkeep (HBw.out _ HBr.out) y1
                  have he' : (rAt rs r == (k : Int)) = false := by simpa using he
                  clear y1 y2 he
                  go_wp2_with fail
                  refine CI.mono ?_
                  rintro e w4 ⟨rfl, hb4⟩
                  have HR4 : Hid (w4.ownsRow W.heap.size 5 1 (.slice A pre.length c) pre.length (Lib.byteCells pre)) := own_keep HRr.out hb4
                  have HB4 : Hid (Below W.heap.size W w4) := lb_trans HBr.out hb4
                  clear hb4 CI x2
                  go_wp2_with (at_builtin; refine Lib.wpList_append_own_string _ rfl (.tmp 133) (.tmp 140) 75 9 rfl W.heap.size 5 i0 Tryz.underlying75 Tryz.underlying9 hi hz0 hz1 hz2 (.slice A pre.length c) pre.length (Lib.byteCells pre) rfl HR4.out (bs (lineL (nth code k)) ++ (⟨#[10]⟩ : ByteArray)) rfl (by rw [HSz.out]; unfold maxLen; omega) (by rw [HSz.out]; omega) HB4.out.size ?_; intro v5 w5 hown' hgrow _; have HR5 : Hid (Rb w5 W.heap.size v5 (pre ++ lineB (wordsL (nth code k)))) := (by have h1 := Rb.str hown'; rwa [HS1.out] at h1); have HB5 : Hid (Below W.heap.size W w5) := Rb.below HR4.out HB4.out hgrow; clear hown' hgrow)
                  have HP5 : Hid ((pre ++ lineB (wordsL (nth code k))) ++ codeT ss rs (code.drop (k + 1)) (k + 1) r = objT nm code dA data ss rs) := by
                    unfold Hid
                    rw [← HPr.out, HE.out, List.append_assoc]
                  obtain ⟨A5, c5, e5⟩ := HR5.out.form
                  subst e5
                  clear d0 d1 d2 d3 d4 d5
                  go_roundw
                  case rel => exact ⟨k + 1, r, _, _, _, by go_num, rfl, rfl, by omega, hr, HR5, HB5, HP5⟩
                  case measure => simp [intOf]; omega
                · have hr0' : ¬ (r : Int) < (rs.length : Int) := by omega
                  go_wp2_with fail
                  refine CI.mono ?_
                  rintro e w4 ⟨rfl, hb4⟩
                  have HR4 : Hid (w4.ownsRow W.heap.size 5 1 (.slice A pre.length c) pre.length (Lib.byteCells pre)) := own_keep HRr.out hb4
                  have HB4 : Hid (Below W.heap.size W w4) := lb_trans HBr.out hb4
                  clear hb4 CI x2
                  go_wp2_with (at_builtin; refine Lib.wpList_append_own_string _ rfl (.tmp 133) (.tmp 140) 75 9 rfl W.heap.size 5 i0 Tryz.underlying75 Tryz.underlying9 hi hz0 hz1 hz2 (.slice A pre.length c) pre.length (Lib.byteCells pre) rfl HR4.out (bs (lineL (nth code k)) ++ (⟨#[10]⟩ : ByteArray)) rfl (by rw [HSz.out]; unfold maxLen; omega) (by rw [HSz.out]; omega) HB4.out.size ?_; intro v5 w5 hown' hgrow _; have HR5 : Hid (Rb w5 W.heap.size v5 (pre ++ lineB (wordsL (nth code k)))) := (by have h1 := Rb.str hown'; rwa [HS1.out] at h1); have HB5 : Hid (Below W.heap.size W w5) := Rb.below HR4.out HB4.out hgrow; clear hown' hgrow)
                  have HP5 : Hid ((pre ++ lineB (wordsL (nth code k))) ++ codeT ss rs (code.drop (k + 1)) (k + 1) r = objT nm code dA data ss rs) := by
                    unfold Hid
                    rw [← HPr.out, HE.out, List.append_assoc]
                  obtain ⟨A5, c5, e5⟩ := HR5.out.form
                  subst e5
                  clear d0 d1 d2 d3 d4 d5
                  go_roundw
                  case rel => exact ⟨k + 1, r, _, _, _, by go_num, rfl, rfl, by omega, hr, HR5, HB5, HP5⟩
                  case measure => simp [intOf]; omega
            · obtain rfl : k = code.length := by omega
              have HP9 : Hid (pre = objT nm code dA data ss rs) := by
                have h1 := HPr.out
                rw [codeT_end, List.append_nil] at h1
                exact h1
              have hback := HRr.out.back rfl
              go_wp2
              go_ret
              exact ⟨retTx (congrArg bs HP9.out), HBw.out _ HBr.out⟩

end Go.Proofs.YtbckolkgncajfaaGreatDoor

namespace Go.Proofs.YtbckolkgncajfaaGreatDoor
open Go.RowKit

set_option maxHeartbeats 4000000 in
set_option maxRecDepth 100000 in
theorem refobject_any (nm : ByteArray) (dA : Int) (A1 A2 A3 A4 : Option Addr) (c1 c2 c3 c4 : Nat) (code data : List Int) (ss : List Sym) (rs : List Rel) (w : World) (h : ObjIn w A1 A2 A3 A4 c4 nm code dA data ss rs) (ht : Tab w) :
    Calls Tryz.prog 23 #[.agg #[.string nm, .slice A1 code.length c1, .int .i64 dA, .slice A2 data.length c2, .slice A3 ss.length c3, .slice A4 rs.length c4]] w (TellP nm code dA data ss rs w) := by
  have HI : Hid (ObjIn w A1 A2 A3 A4 c4 nm code dA data ss rs) := h
  have HT : Hid (Tab w) := ht
  obtain ⟨W, hW⟩ : ∃ W, W = w.alloc (.cells #[.string nm, .slice A1 code.length c1, .int .i64 dA, .slice A2 data.length c2, .slice A3 ss.length c3, .slice A4 rs.length c4] 65) := ⟨_, rfl⟩
  have HBW : Hid (Below w.heap.size w W) := by unfold Hid; rw [hW]; exact lb_alloc (Below.refl _ _) _
  have HXW : Hid (W.heap[w.heap.size]? = some (.cells #[.string nm, .slice A1 code.length c1, .int .i64 dA, .slice A2 data.length c2, .slice A3 ss.length c3, .slice A4 rs.length c4] 65 (0, 0))) := by unfold Hid; rw [hW]; exact heap_alloc_new _ _
  have HZW : Hid (w.heap.size < W.heap.size) := by unfold Hid; rw [hW]; simp
  have HW : Hid _ := hW
  have hK2 := h.keep HBW.out
  have CC := refcheck_any nm dA A1 A2 A3 A4 c1 data.length c2 c3 c4 code ss rs W hK2.cd hK2.cr hK2.sy hK2.rl hK2.hc hK2.hd hK2.hs hK2.hl
  clear h ht hW hK2
  obtain ⟨d0, d1, d2, d3, d4, d5⟩ := box6_cell HXW.out
  by_cases hE : (checkC nm code dA data.length ss rs).1 = 0
  · have HA : Hid (ansT nm code dA data ss rs = objT nm code dA data ss rs) := by unfold Hid ansT; rw [if_pos hE]
    have HM : Hid (MayBe nm code dA data.length ss rs) := check_may hE
    have HE : Hid ((checkC nm code dA data.length ss rs).1 = 0) := hE
    rw [hE] at CC
    clear hE
    generalize (checkC nm code dA data.length ss rs).2 = q at CC
    go_enter Tryz.func23, Tryz.ntmps23
    go_upto_region 1 with fail
    rw [← HW.out]
    go_wp2_with fail
    refine CC.mono ?_
    rintro e w1 ⟨rfl, hb1⟩
    have HB1 : Hid (Below w.heap.size w w1) := lb_trans HBW.out hb1
    have HX1 : Hid (w1.heap[w.heap.size]? = some (.cells #[.string nm, .slice A1 code.length c1, .int .i64 dA, .slice A2 data.length c2, .slice A3 ss.length c3, .slice A4 rs.length c4] 65 (0, 0))) := (hb1.block w.heap.size HZW.out).trans HXW.out
    have CO := reftext_any nm dA A1 A2 A3 A4 c1 c2 c3 c4 code data ss rs w1 (HI.out.keep HB1.out) HM.out (HT.out.below HB1.out)
    clear hb1 CC d0 d1 d2 d3 d4 d5 HW
    obtain ⟨d0, d1, d2, d3, d4, d5⟩ := box6_cell HX1.out
    go_wp2_with fail
    refine CO.mono ?_
    rintro e w2 ⟨rfl, hb2⟩
    have HB2 : Hid (Below w.heap.size w w2) := lb_trans HB1.out hb2
    clear CO hb2 d0 d1 d2 d3 d4 d5
    go_wp2
    go_ret2
    exact ⟨ret2S (by rw [HA.out]) HE.out.symm, HB2.out⟩
  · have HA : Hid (ansT nm code dA data ss rs = []) := by unfold Hid ansT; rw [if_neg hE]
    have hE' : ((checkC nm code dA data.length ss rs).1 != 0) = true := by simpa using hE
    clear hE
    obtain ⟨E, HG⟩ : ∃ E, Hid ((checkC nm code dA data.length ss rs).1 = E) := ⟨_, rfl⟩
    rw [HG.out] at CC hE'
    generalize (checkC nm code dA data.length ss rs).2 = q at CC
    go_enter Tryz.func23, Tryz.ntmps23
    go_upto_region 1 with fail
    rw [← HW.out]
    go_wp2_with fail
    refine CC.mono ?_
    rintro e w1 ⟨rfl, hb1⟩
    have HB1 : Hid (Below w.heap.size w w1) := lb_trans HBW.out hb1
    clear hb1 CC d0 d1 d2 d3 d4 d5 HW
    go_wp2
    go_ret2
    exact ⟨ret2S (by rw [HA.out]; rfl) HG.out.symm, HB1.out⟩

end Go.Proofs.YtbckolkgncajfaaGreatDoor
