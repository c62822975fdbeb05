/-
  The document's Repeats.
-/
import Derived.Test.YtokhclindfipbaaGreatDoorProg
import Derived.WalkKit
import Derived.WalkSpells
import Derived.WalkLawsBesides
import Derived.RowKit3
import Derived.Below
import Derived.Deep.QuietTactic
import Derived.BigQuiet
import Derived.WalkSmall
import Derived.Laws.Rows
import Derived.Test.YtokhclindfipbaaGreatDoorPa32
import Derived.Test.YtokhclindfipbaaGreatDoorPa47
import Derived.Test.YtokhclindfipbaaGreatDoorPa28
namespace Go.Proofs.YtokhclindfipbaaGreatDoor
open Go.RowKit

/-- Sequences are told, with their places. -/
def RpsP (T : List (Nat × List Nat)) (w : World) (e : Ending) (w' : World) : Prop := ∃ (PT : List Tp) (A : Option Addr) (c : Nat), e = .returned (.slice A PT.length c) ∧ fsts PT = T ∧ TpsAt w' A PT ∧ Below w.heap.size w w'
theorem rps_tps {nm : List Int} {en : Nat → Nat} {S : Nat × Nat → Value} {w : World} {A : Option Addr} : ∀ (R : List (Nat × Nat)), RpAt w A S R → ToldP nm en S w R → ∃ PT : List Tp, PT.length = R.length ∧ fsts PT = tdL nm en R ∧ TpsAt w A PT := fun R hA hT => by
  have ex : ∀ r ∈ R, ∃ p : Tp, p.1 = (r.1, plcS nm en r.2 r.1) ∧ S r = tpV p ∧ IntsAt w p.2.1 .i64 (nV64 p.1.2) := fun r hr => by
    obtain ⟨X, c, e, hI, _⟩ := (hT r hr).2
    exact ⟨((r.1, plcS nm en r.2 r.1), (some X, c)), rfl, e, hI⟩
  have go : ∀ L : List (Nat × Nat), (∀ r ∈ L, r ∈ R) → ∃ PT : List Tp, PT.length = L.length ∧ fsts PT = tdL nm en L ∧ ∀ j, j < L.length → S (rth L j) = tpV (pth PT j) ∧ (pth PT j).1.1 = (rth L j).1 ∧ IntsAt w (pth PT j).2.1 .i64 (nV64 (pth PT j).1.2) := fun L => by
    induction L with
    | nil => intro _; exact ⟨[], rfl, rfl, fun j hj => absurd hj (Nat.not_lt_zero _)⟩
    | cons r L ih =>
      intro hm
      obtain ⟨PT, e1, e2, e3⟩ := ih fun x hx => hm x (List.mem_cons_of_mem _ hx)
      obtain ⟨p, q1, q2, q3⟩ := ex r (hm r List.mem_cons_self)
      refine ⟨p :: PT, by rw [List.length_cons, List.length_cons, e1], ?_, fun j hj => ?_⟩
      · unfold fsts tdL at e2 ⊢
        rw [List.map_cons, List.map_cons, e2, q1]
      · cases j with
        | zero =>
          refine ⟨q2, ?_, q3⟩
          show p.1.1 = r.1
          rw [q1]
        | succ j =>
          have := e3 j (by simpa using hj)
          simpa [rth, pth] using this
  obtain ⟨PT, e1, e2, e3⟩ := go R fun _ h => h
  refine ⟨PT, e1, e2, fun j hj => ?_⟩
  obtain ⟨a, ea, x, y⟩ := hA j (by omega)
  obtain ⟨f1, f2, f3⟩ := e3 j (by omega)
  refine ⟨a, ea, by rw [f2]; exact x, by rw [← f1]; exact y, f3⟩
theorem nv_nth0 {L : List Nat} (h : 0 < L.length) : nth (natL L) 0 = ((snth L 0 : Nat) : Int) := natL_nth h
theorem rep_nodup (nm : List Int) (en : Nat → Nat) : (repC nm en).Nodup := repC_nodup nm en
set_option maxRecDepth 100000 in
set_option maxHeartbeats 16000000 in
theorem refrepeats_any (A1 A2 : Option Addr) (c1 ml c2 : Nat) (ent : Int) (text : List Int) (w : World) (hT : IntsAt w A1 .u32 text) (hR : ∀ i, i < text.length → 0 ≤ nth text i ∧ nth text i < 4294967296) (hM : MayI text ml ent) (hl : text.length ≤ 512)
    (nm : List Int) (hnm : numL text text.length = nm) (en : Nat → Nat) (hen : enK (begF text ent) text.length = en) :
    Calls Tryz.prog 26 #[.agg #[.slice A1 text.length c1, .int .i64 ent, .slice A2 ml c2]] w (RpsP (tdL nm en (eachL nm en)) w) := by
  have HEn : Hid (EnP nm en) := by
    have := enK_ok (f := begF text ent) (nm := nm)
    rw [← hnm, numL_len, hen, hnm] at this
    exact this
  have hnl : nm.length = text.length := by rw [← hnm, numL_len]
  have HTell : Hid (∀ R', SrQ nm (repC nm en) R' → R' = eachL nm en) := fun R' h => by
    rw [repL_uniq HEn.out (h.rep HEn.out), ← repL_uniq HEn.out (each_is HEn.out)]
  have HEs : Hid (EnsP nm en (enL (begF text ent) text.length)) := ⟨HEn.out, by rw [enL_len, hnl], fun k hk => by rw [enL_nth (by omega), hen]⟩
  obtain ⟨W, HW⟩ : ∃ W, Hid (w.alloc (.cells #[.slice A1 text.length c1, .int .i64 ent, .slice A2 ml c2] 25) = W) := ⟨_, rfl⟩
  have HB : Hid (Below w.heap.size w W) := by unfold Hid; rw [← HW.out]; exact lb_alloc (Below.refl _ _) _
  have i0 : W.cell? ⟨w.heap.size, 0, none⟩ = some (.slice A1 text.length c1) := by rw [← HW.out]; simp [go_sem]
  have i1 : W.cell? ⟨w.heap.size, 1, none⟩ = some (.int .i64 ent) := by rw [← HW.out]; simp [go_sem]
  have i2 : W.cell? ⟨w.heap.size, 2, none⟩ = some (.slice A2 ml c2) := by rw [← HW.out]; simp [go_sem]
  have HI : Hid (∀ Z, Below W.heap.size W Z → Z.cell? ⟨w.heap.size, 0, none⟩ = some (.slice A1 text.length c1) ∧ Z.cell? ⟨w.heap.size, 1, none⟩ = some (.int .i64 ent) ∧ Z.cell? ⟨w.heap.size, 2, none⟩ = some (.slice A2 ml c2)) := fun Z hZ => ⟨lkeep hZ i0, lkeep hZ i1, lkeep hZ i2⟩
  have CN := fun Z (hZ : Below w.heap.size w Z) => refnumbers_any A1 c1 text Z (hT.keep hZ) hR (by omega)
  have CE := fun Z (hZ : Below w.heap.size w Z) => refends18_any A1 A2 c1 ml c2 ent text Z (hT.keep hZ) hR hM
  have hes : (enL (begF text ent) text.length).length = text.length := enL_len _ _
  rw [hnm] at CN
  obtain ⟨es, he⟩ : ∃ es, es = enL (begF text ent) text.length := ⟨_, rfl⟩
  rw [← he] at CE HEs hes
  rw [← hnl] at hes hl
  obtain ⟨iR, hi, hz0, hz1, hz2⟩ := infoRQ
  clear hT hR hM hnm hen he
  go_enter Tryz.func26, Tryz.ntmps26
  go_upto_region 1 with fail
  rw [HW.out]
  clear HW
  go_wp2_with fail
  refine (CN _ HB.out).mono ?_
  rintro e w1 ⟨An, cn, rfl, hnn, hb1⟩
  have HN1 : Hid (IntsAt w1 An .i64 nm) := row_ints hnn
  have HB1 : Hid (Below W.heap.size W w1) := hb1
  clear hnn hb1 i0 i1 i2
  obtain ⟨i0, i1, i2⟩ := HI.out w1 HB1.out
  go_wp2_with fail
  refine (CE _ (lb_trans HB.out HB1.out)).mono ?_
  rintro e w2 ⟨Ae, ce, rfl, hee, hb2⟩
  have HN2 : Hid (IntsAt w2 An .i64 nm) := HN1.out.keep hb2
  have HE2 : Hid (IntsAt w2 Ae .i64 es) := row_ints (l := es) (n := text.length) (by rw [hes, hnl]; exact hee)
  rw [← hnl]
  clear hnl
  have HB2 : Hid (Below w.heap.size w w2) := lb_trans (lb_trans HB.out HB1.out) hb2
  have SQ := fun (Z : World) (i n : Nat) (hZ : Below w2.heap.size w2 Z) (hi : i < nm.length) (hr : i + n ≤ en i) => refplaces_any An Ae cn ce nm es en i n Z (HN2.out.keep hZ) (HE2.out.keep hZ) HEs.out (by omega) hi hr
  clear hee hb2 CN CE HI HN1 HB1 HB i0 i1 i2
  go_wp2
  go_loopw [5, 6] (fun vl vi wr => ∃ (i : Nat) (PT : List Tp) (X : Option Addr) (ko : Nat), vi = .int .i64 (i : Int) ∧ vl = .slice X PT.length ko ∧ i ≤ nm.length ∧ Hid (fsts PT = tdL nm en (repK nm en i)) ∧ Hid (wr.ownsRow w2.heap.size 69 2 (.slice X PT.length ko) PT.length (dTp PT)) ∧ Hid (TpAt wr w2.heap.size PT) ∧ Hid (Below w2.heap.size w2 wr)) (fun _ vi _ => nm.length - (intOf vi).toNat)
  case atStart => exact ⟨0, [], none, 0, rfl, rfl, Nat.zero_le _, rfl, World.ownsRow_nil _ _ _ _, (fun p hp => by cases hp), Below.refl _ _⟩
  case round =>
    obtain ⟨i, PT, X, ko, rfl, rfl, hin, HF, HO, HA, HW⟩ := hrel
    by_cases hlt : i < nm.length
    · have hlt' : (i : Int) < (nm.length : Int) := by omega
      have hi1 := HEn.out.lt i hlt
      have hi2 := HEn.out.le i hlt
      have HF2 : Hid (fsts PT = tdL nm en (repK nm en i ++ rowQ nm en i 2)) := by unfold Hid; rw [rowQ_two, List.append_nil]; exact HF.out
      have HEc : Hid (∀ Z, Below w2.heap.size w2 Z → ∃ a : Addr, Ae = some a ∧ Z.cell? (a.add i) = some (.int .i64 ((en i : Nat) : Int))) := fun Z hZ => by
        obtain ⟨a, ea, q⟩ := (HE2.out.keep hZ) i (by rw [hes]; exact hlt)
        rw [HEs.out.at_ i hlt] at q
        exact ⟨a, ea, q⟩
      clear HF
      go_wp2
      go_loopw [5, 7] (fun vl vn wr => ∃ (n : Nat) (PT : List Tp) (X : Option Addr) (ko : Nat), vn = .int .i64 (n : Int) ∧ vl = .slice X PT.length ko ∧ 2 ≤ n ∧ i + n ≤ en i + 1 ∧ Hid (fsts PT = tdL nm en (repK nm en i ++ rowQ nm en i n)) ∧ Hid (wr.ownsRow w2.heap.size 69 2 (.slice X PT.length ko) PT.length (dTp PT)) ∧ Hid (TpAt wr w2.heap.size PT) ∧ Hid (Below w2.heap.size w2 wr)) (fun _ vn _ => en i + 1 - (i + (intOf vn).toNat))
      case atStart => exact ⟨2, PT, X, ko, rfl, rfl, Nat.le_refl _, by omega, HF2, HO, HA, HW⟩
      case round =>
        clear HF2 HO HA HW
        obtain ⟨n, PT, X, ko, rfl, rfl, hn2, hn1, HF, HO, HA, HW⟩ := hrel
        obtain ⟨a, ea, q⟩ := HEc.out wr HW.out
        subst ea
        have hPl : PT.length ≤ 300000 := by
          have h1 := congrArg List.length HF.out
          unfold fsts tdL at h1
          rw [List.length_map, List.length_map] at h1
          have := repK_few (nm := nm) (en := en) (i := i) (n := n) (by omega) hlt (by omega)
          omega
        by_cases hr : i + n ≤ en i
        · have hr' : (i : Int) + (n : Int) ≤ (en i : Int) := by omega
          have C := SQ wr i n HW.out hlt hr
          have HLn : Hid ((plcS nm en i n).length ≤ nm.length) := plcS_few nm en i n
          by_cases hk : (plcS nm en i n).length < 2
          · have HD : Hid (repK nm en (i + 1) = repK nm en i ++ rowQ nm en i n) := repK_lone HEn.out hlt hr hk (by omega)
            have hk' : ((plcS nm en i n).length : Int) < 2 := by omega
            generalize plcS nm en i n = L at *
            generalize en i = ei at *
            go_wp2_with fail
            refine C.mono ?_
            rintro e w5 ⟨O, c, rfl, ho, hb5⟩
            have HW5 : Hid (Below w2.heap.size w2 w5) := lb_trans HW.out hb5
            have HO5 : Hid (w5.ownsRow w2.heap.size 69 2 (.slice X PT.length ko) PT.length (dTp PT)) := row_keep HO.out hb5
            have HA5 : Hid (TpAt w5 w2.heap.size PT) := fun p hp => row_keep (HA.out p hp) hb5
            have HF5 : Hid (fsts PT = tdL nm en (repK nm en (i + 1))) := by unfold Hid; rw [HD.out]; exact HF.out
            clear ho hb5 C q HW HO HA HF
            go_wp2
            exact ⟨⟨i + 1, PT, X, ko, by go_num, rfl, by omega, HF5, HO5, HA5, HW5⟩, by simp [intOf]; omega⟩
          · have hk2 : 2 ≤ (plcS nm en i n).length := by omega
            have hk' : ¬ ((plcS nm en i n).length : Int) < 2 := by omega
            have hk0 : (0 : Int) < ((plcS nm en i n).length : Int) := by omega
            have hc0 : nth (natL (plcS nm en i n)) 0 = ((snth (plcS nm en i n) 0 : Nat) : Int) := natL_nth (by omega)
            by_cases hf : snth (plcS nm en i n) 0 = i
            · have HR1 : Hid (repK nm en i ++ rowQ nm en i (n + 1) = (repK nm en i ++ rowQ nm en i n) ++ [(n, i)]) := row_first HEn.out hlt hn2 hr hk2 hf
              have HTd : Hid (∀ r : Nat × Nat, r = (n, i) → (n, plcS nm en i n) = (r.1, plcS nm en r.2 r.1)) := fun r e => by rw [e]
              rw [hf] at hc0
              have HTd2 : Hid (tdL nm en [(n, i)] = [(n, plcS nm en i n)]) := rfl
              clear HTd hf
              generalize plcS nm en i n = L at *
              go_wp2_with fail
              refine C.mono ?_
              rintro e w5 ⟨O, c, rfl, ho, hb5⟩
              obtain ⟨g, rfl, hLc⟩ := own_some ho (by omega)
              obtain ⟨g', eg', q0⟩ := row_ints (l := natL L) (by rw [natL_len]; exact ho) 0 (by rw [natL_len]; omega)
              cases eg'
              rw [hc0] at q0
              replace q0 : w5.cell? g = some (.int .i64 (i : Int)) := q0
              have HOr : Hid (w5.ownsRow wr.heap.size 3 1 (.slice (some g) L.length c) L.length (iVals .i64 (natL L))) := ho
              have HW5 : Hid (Below w2.heap.size w2 w5) := lb_trans HW.out hb5
              have HO5 : Hid (w5.ownsRow w2.heap.size 69 2 (.slice X PT.length ko) PT.length (dTp PT)) := row_keep HO.out hb5
              have HA5 : Hid (TpAt w5 w2.heap.size PT) := fun p hp => row_keep (HA.out p hp) hb5
              have hws : w2.heap.size ≤ wr.heap.size := HW.out.size
              have HBa : Hid (Below w2.heap.size w2 (w5.alloc (.cells #[.int .i64 (n : Int), .slice (some g) L.length c] 69))) := lb_alloc HW5.out _
              have HRa : Hid ((w5.alloc (.cells #[.int .i64 (n : Int), .slice (some g) L.length c] 69)).ownsRow w2.heap.size 69 2 (.slice X PT.length ko) PT.length (dTp PT)) := row_keep HO5.out (lb_alloc (Below.refl _ _) _)
              clear ho hb5 C q HW HO HA hc0
              go_wp2_with (at_builtin; go_loud (refine wpList_append_own _ rfl (.tmp 43) (.tmp 47) 29 rfl w2.heap.size 69 iR (.agg #[.int .i64 0, .slice none 0 0]) 2 32 Tryz.underlying29 hi hz0 hz1 hz2 rfl (by decide) (.slice X PT.length ko) PT.length (dTp PT) rfl HRa.out ⟨w5.heap.size, 0, none⟩ 1 1 [.int .i64 (n : Int), .slice (some g) L.length c] rfl rfl (fun j u hu => World.news_of_block (new_at (by simp)) j u hu) two_one (by unfold maxLen; omega) (by omega) HBa.out.size ?_; intro v3 w6 hown hgrow _; have HB6 : Hid (Below w2.heap.size w2 w6) := HBa.out.grown hgrow HBa.out.size (fun b hb => (HRa.out.lt b hb).1); have HT6 : Hid (TpAt w6 w2.heap.size PT) := TpAt.past (fun p hp => (HA5.out p hp).alloc _) HRa.out hgrow; have HN6 : Hid (w6.ownsRow wr.heap.size 3 1 (.slice (some g) L.length c) L.length (iVals .i64 (natL L))) := row_past (HOr.out.alloc _) HRa.out (by decide) hgrow; have HR6 : Hid (w6.ownsRow w2.heap.size 69 2 v3 (PT.length + 1) (dTp PT ++ [.int .i64 (n : Int), .slice (some g) L.length c])) := hown; clear hown hgrow))
              obtain ⟨X6, k6, rfl, -⟩ := own_formR HR6.out
              have HF6 : Hid (fsts (PT ++ [((n, L), (some g, c))]) = tdL nm en (repK nm en i ++ rowQ nm en i (n + 1))) := by
                unfold Hid
                rw [HR1.out]
                have h1 := HF.out
                unfold fsts at h1 ⊢
                unfold tdL at h1 ⊢
                rw [List.map_append, List.map_append, h1]
                exact congrArg _ HTd2.out.symm
              have HR7 : Hid (w6.ownsRow w2.heap.size 69 2 (.slice X6 (PT ++ [((n, L), (some g, c))]).length k6) (PT ++ [((n, L), (some g, c))]).length (dTp (PT ++ [((n, L), (some g, c))]))) := by
                unfold Hid
                rw [dTp_append, List.length_append]
                exact HR6.out
              have HT7 : Hid (TpAt w6 w2.heap.size (PT ++ [((n, L), (some g, c))])) := fun p hp => by
                rcases List.mem_append.1 hp with hp | hp
                · exact HT6.out p hp
                · rw [List.mem_singleton.1 hp]
                  exact ownsRow_mono HN6.out hws
              go_roundw
              case rel => exact ⟨n + 1, _, X6, k6, by go_num, by rw [List.length_append]; rfl, by omega, by omega, HF6, HR7, HT7, HB6⟩
              case measure => simp [intOf]; omega
            · have HR1 : Hid (rowQ nm en i (n + 1) = rowQ nm en i n) := row_later HEn.out hlt hn2 hr hk2 hf
              have hx : (((snth (plcS nm en i n) 0 : Nat) : Int) == (i : Int)) = false := by
                rw [beq_eq_false_iff_ne]
                exact fun e => hf (Int.ofNat.inj e)
              have HF5 : Hid (fsts PT = tdL nm en (repK nm en i ++ rowQ nm en i (n + 1))) := by unfold Hid; rw [HR1.out]; exact HF.out
              clear hf HF
              generalize plcS nm en i n = L at *
              generalize snth L 0 = f0 at *
              go_wp2_with fail
              refine C.mono ?_
              rintro e w5 ⟨O, c, rfl, ho, hb5⟩
              obtain ⟨g, rfl, hLc⟩ := own_some ho (by omega)
              obtain ⟨g', eg', q0⟩ := row_ints (l := natL L) (by rw [natL_len]; exact ho) 0 (by rw [natL_len]; omega)
              cases eg'
              rw [hc0] at q0
              replace q0 : w5.cell? g = some (.int .i64 (f0 : Int)) := q0
              have HW5 : Hid (Below w2.heap.size w2 w5) := lb_trans HW.out hb5
              have HO5 : Hid (w5.ownsRow w2.heap.size 69 2 (.slice X PT.length ko) PT.length (dTp PT)) := row_keep HO.out hb5
              have HA5 : Hid (TpAt w5 w2.heap.size PT) := fun p hp => row_keep (HA.out p hp) hb5
              clear ho hb5 C q HW HO HA hc0
              go_wp2
              go_roundw
              case rel => exact ⟨n + 1, PT, X, ko, by go_num, rfl, by omega, by omega, HF5, HO5, HA5, HW5⟩
              case measure => simp [intOf]; omega
        · have hr' : ¬ (i : Int) + (n : Int) ≤ (en i : Int) := by omega
          have hr2 : (en i : Int) < (i : Int) + (n : Int) := by omega
          have HD : Hid (repK nm en (i + 1) = repK nm en i ++ rowQ nm en i n) := repK_room (by omega) (by omega)
          have HF5 : Hid (fsts PT = tdL nm en (repK nm en (i + 1))) := by unfold Hid; rw [HD.out]; exact HF.out
          clear HF
          generalize en i = ei at *
          go_wp2
          exact ⟨⟨i + 1, PT, X, ko, by go_num, rfl, by omega, HF5, HO, HA, HW⟩, by simp [intOf]; omega⟩
    · obtain rfl : i = nm.length := by omega
      have hlt' : ¬ (nm.length : Int) < (nm.length : Int) := by omega
      have hF := HF.out
      rw [repK_all] at hF
      obtain ⟨S, eS, hS⟩ := slots_of nm en (repC nm en) PT (repC_nodup nm en) hF
      have hPl : PT.length = (repC nm en).length := by
        have h1 := congrArg List.length hF
        unfold fsts tdL at h1
        rwa [List.length_map, List.length_map] at h1
      have hcl := repC_few (nm := nm) (en := en) (by omega)
      obtain ⟨_, _, e9, hko⟩ := own_formR HO.out
      cases e9
      have hRp : RpAt wr X S (repC nm en) := row_rps (base := w2.heap.size) (c := ko) (n := PT.length) (e := 69) (by rw [← eS, ← hPl]; exact HO.out)
      have hTo : ToldP nm en S wr (repC nm en) := fun r hr => by
        have hq := (repC_mem HEn.out r).1 hr
        obtain ⟨p, p1, p2, p3⟩ := hS r hr
        exact ⟨hq, at_of (HA.out p p1) p2 p3 (by have := (plcS_two HEn.out hq.1 hq.2.2.1).2 hq.2.2.2.1; omega)⟩
      have C := refsort18_any An cn nm en S HEn.out (by omega) _ (repC nm en) X ko wr rfl (by omega) (by omega) (HN2.out.keep HW.out) hRp hTo
      rw [← hPl] at C
      have HTo : Hid (ToldP nm en S wr (repC nm en)) := hTo
      unfold SrtQ at C
      clear hF eS hS hcl hko hRp hTo HF HO HA hPl
      go_wp2_with fail
      refine C.mono ?_
      rintro e w5 ⟨R', A', c', rfl, h1, -, h3, hb5⟩
      obtain rfl := HTell.out R' h3
      obtain ⟨QT, l1, l2, l3⟩ := rps_tps (nm := nm) (en := en) _ h1 (fun r hr => (HTo.out.keep hb5) r (h3.perm.mem_iff.1 hr))
      have HQ : Hid (RpsP (tdL nm en (eachL nm en)) w (.returned (.slice A' (eachL nm en).length c')) w5) := ⟨QT, A', c', by rw [l1], l2, l3, lb_trans HB2.out (lb_trans HW.out hb5)⟩
      clear h1 h3 hb5 l1 l2 l3 C
      go_wp2
      go_ret
      exact HQ.out

end Go.Proofs.YtokhclindfipbaaGreatDoor
