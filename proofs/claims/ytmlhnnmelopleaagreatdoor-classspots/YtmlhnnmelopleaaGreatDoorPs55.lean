/-
  The law ClassSpots.
-/
import Derived.Test.YtmlhnnmelopleaaGreatDoorProg
import Derived.WalkKit
import Derived.WalkSpells
import Derived.WalkLawsBesides
import Derived.RowKit3
import Derived.Below
import Derived.Deep.QuietTactic
import Derived.BigQuiet
import Derived.WalkSmall
import Derived.Laws.Rows
import Derived.Test.YtmlhnnmelopleaaGreatDoorPs47
import Derived.Test.YtmlhnnmelopleaaGreatDoorPs30
import Derived.Test.YtmlhnnmelopleaaGreatDoorPs46
import Derived.Test.YtmlhnnmelopleaaGreatDoorPs04
import Derived.Test.YtmlhnnmelopleaaGreatDoorPs53
import Derived.Test.YtmlhnnmelopleaaGreatDoorPs54
import Derived.Deep.Cut
import Derived.Deep.RegionHeld3
import Derived.Lib.QuietBelow
namespace Go.Proofs.YtmlhnnmelopleaaGreatDoor
open Go.RowKit

theorem spots_gd {text : List Int} {ent : Int} {H G : Int → Nat} {n p0 : Nat} (hn : 0 < n) (h : Gd text ent H n p0) (k : Gd text ent G n p0) : ∀ P : List Int, (∀ p ∈ P, p.toNat + n ≤ text.length ∧ cutN text p.toNat n = cutN text p0 n) → spotsN text ent H n P = spotsN text ent G n P
  | [], _ => rfl
  | p :: P, a => by
    obtain ⟨x, y⟩ := a p (List.mem_cons_self ..)
    have ih := spots_gd hn h k P fun q hq => a q (List.mem_cons_of_mem _ hq)
    simp only [spotsN, spot_gd x hn y h k, ih]
/-- The program's spots, in one form. -/
def SpU (text : List Int) (ent : Int) (E n : Int) (P : List Int) (f : Int) (L : List Spt) : Prop := (E ≠ 0 ∧ f = E ∧ L = []) ∨ (E = 0 ∧ ¬ OneP text n P ∧ f = 51 ∧ L = []) ∨ (E = 0 ∧ OneP text n P ∧ f = 0 ∧ ∃ H : Int → Nat, Gd text ent H n.toNat (nth P 0).toNat ∧ L = spotsN text ent H n.toNat P)
theorem no_sps (w : World) (A : Option Addr) : SpAt w A [] := fun _ hj => absurd hj (Nat.not_lt_zero _)
theorem spu {text : List Int} {ml : Nat} {ent n : Int} {P : List Int} {w : World} {e : Ending} {w' : World} (h : SpotsR text ml ent n P w e w') : ∃ (A : Option Addr) (L : List Spt) (c : Nat) (f : Int), e = .returned (.tuple #[.slice A L.length c, .int .i64 f]) ∧ Below w.heap.size w w' ∧ SpAt w' A L ∧ SpU text ent (checkI text ml ent).1 n P f L := by
  obtain ⟨hb, ⟨hE, rfl⟩ | ⟨hE, hO, rfl⟩ | ⟨hE, hO, H, A, c, hG, rfl, hS⟩⟩ := h
  · exact ⟨none, [], 0, _, rfl, hb, no_sps _ _, .inl ⟨hE, rfl, rfl⟩⟩
  · exact ⟨none, [], 0, _, rfl, hb, no_sps _ _, .inr (.inl ⟨hE, hO, rfl, rfl⟩)⟩
  · exact ⟨A, _, c, _, rfl, hb, hS, .inr (.inr ⟨hE, hO, rfl, H, hG, rfl⟩)⟩
def RsU (text : List Int) (ent : Int) (G : Int → Nat) (n : Int) (P : List Int) (b : Bool) (L : List Spt) : Prop := (b = false ∧ ¬ OneP text n P ∧ L = []) ∨ (b = true ∧ OneP text n P ∧ L = spotsN text ent G n.toNat P)
theorem rsu {text : List Int} {ent n : Int} {G : Int → Nat} {P : List Int} {w : World} {e : Ending} {w' : World} (h : RssP text ent G n P w e w') : ∃ (A : Option Addr) (L : List Spt) (c : Nat) (b : Bool), e = .returned (.tuple #[.slice A L.length c, .bool b]) ∧ Below w.heap.size w w' ∧ SpAt w' A L ∧ RsU text ent G n P b L := by
  obtain ⟨hb, ⟨hO, rfl⟩ | ⟨hO, A, c, rfl, hS⟩⟩ := h
  · exact ⟨none, [], 0, _, rfl, hb, no_sps _ _, .inl ⟨rfl, hO, rfl⟩⟩
  · exact ⟨A, _, c, _, rfl, hb, hS, .inr ⟨rfl, hO, rfl⟩⟩
theorem two_u {text : List Int} {ent n : Int} {G : Int → Nat} {P : List Int} {b : Bool} {L L' : List Spt} {f : Int} (hG : BhI text ent G) (h : SpU text ent 0 n P f L) (k : RsU text ent G n P b L') : (b = false ∧ f = 51 ∧ L = []) ∨ (b = true ∧ f = 0 ∧ L = L') := by
  rcases h with ⟨h, _⟩ | ⟨_, h, e1, e2⟩ | ⟨_, h, e1, H, hH, e2⟩
  · exact absurd rfl h
  · rcases k with ⟨k, _⟩ | ⟨_, k, _⟩
    · exact .inl ⟨k, e1, e2⟩
    · exact absurd k h
  · rcases k with ⟨_, k, _⟩ | ⟨k1, k2, k3⟩
    · exact absurd h k
    · refine .inr ⟨k1, e1, ?_⟩
      rw [e2, k3]
      obtain ⟨o1, o2, o3⟩ := h
      obtain ⟨f1, f2, f3⟩ := fit_yes (o2 0 o1)
      refine spots_gd (by omega) hH (fun _ => hG) P fun p hp => ?_
      obtain ⟨i, hi, rfl⟩ := mem_nth hp
      obtain ⟨g1, g2, g3⟩ := fit_yes (o2 i hi)
      refine ⟨by omega, ?_⟩
      cases i with
      | zero => rfl
      | succ i => exact (o3 i hi).2.1
/-- What the program tells of one place. -/
def ansP (text : List Int) (ent : Int) (G : Int → Nat) (n p : Int) : Spt × Bool × Int := if fitB text n p = true then (resS p (spotN text ent G n.toNat p.toNat), okS (spotN text ent G n.toNat p.toNat), 0) else ((0, 0, 0), false, 1)
theorem spot_det {text : List Int} {ml : Nat} {ent n p : Int} {G : Int → Nat} {w : World} {e : Ending} {w' : World} (hE : (checkI text ml ent).1 = 0) (hG : BhI text ent G) (h : SpotP text ml ent n p w e w') : e = .returned (.tuple #[.agg #[.int .i64 (ansP text ent G n p).1.1, .int .i8 (ansP text ent G n p).1.2.1, .int .i8 (ansP text ent G n p).1.2.2], .bool (ansP text ent G n p).2.1, .int .i64 (ansP text ent G n p).2.2]) ∧ Below w.heap.size w w' := by
  obtain ⟨hb, ⟨h, _⟩ | ⟨_, hf, rfl⟩ | ⟨_, hf, H, hH, rfl⟩⟩ := h
  · exact absurd hE h
  · refine ⟨?_, hb⟩
    unfold ansP
    rw [hf]; rfl
  · refine ⟨?_, hb⟩
    obtain ⟨f1, f2, f3⟩ := fit_yes hf
    unfold ansP
    rw [hf, if_pos rfl, spot_gd (q := p.toNat) (by omega) (by omega) rfl hH (fun _ => hG)]
theorem copyints_u (O : Option Addr) (ca : Nat) (zs : List Int) (w : World) (hA : IntsAt w O .i64 zs) (h0 : O = none → ca = 0) (hz : zs.length ≤ 1048576) :
    Calls Tryz.prog 15 #[.slice O zs.length ca] w fun e w' => ∃ (X : Option Addr) (k : Nat), e = .returned (.slice X zs.length k) ∧ Hid (IntsAt w' X .i64 zs) ∧ Hid (zs.length ≤ k) ∧ Below w.heap.size w w' := by
  refine (copyints_any O ca zs w hA h0 hz).mono ?_
  rintro e w3 ⟨X, k, rfl, hown, hg, hn⟩
  rw [zNews_vals] at hown
  exact ⟨X, k, rfl, row_ints hown, own_cap hown, below_grow (Below.refl _ _) hg⟩
open Go.Sort in
set_option maxRecDepth 100000 in
set_option maxHeartbeats 32000000 in
theorem lawSpots (A1 A2 : Option Addr) (c1 c2 : Nat) (ent : Int) (text mem : List Int) (n : Int) (A : Option Addr) (cP : Nat) (P : List Int) (w : World) (hTz : Tz w) (hT : IntsAt w A1 .u32 text) (hM : IntsAt w A2 .i64 mem) (hR : ∀ i, i < text.length → 0 ≤ nth text i ∧ nth text i < 4294967296) (h01 : A1 = none → c1 = 0) (h02 : A2 = none → c2 = 0) (kc : text.length ≤ c1) (hP : IntsAt w A .i64 P) (h03 : A = none → cP = 0) (hPr : ∀ i, i < P.length → nth P i ≤ 9223372036854775807) :
    Calls Tryz.prog 4 #[.agg #[.slice A1 text.length c1, .int .i64 ent, .slice A2 mem.length c2], .int .i64 n, .slice A P.length cP] w fun e w' => e = .returned (.bool true) ∧ Below w.heap.size w w' := by
  obtain ⟨W, HW⟩ : ∃ W, Hid (w.alloc (.cells #[.slice A1 text.length c1, .int .i64 ent, .slice A2 mem.length c2] 31) = W) := ⟨_, rfl⟩
  have HB : Hid (Below w.heap.size w W) := by unfold Hid; rw [← HW.out]; exact lb_alloc (Below.refl _ _) _
  have i0 : W.cell? ⟨w.heap.size, 0, none⟩ = some (.slice A1 text.length c1) := by rw [← HW.out]; simp [go_sem]
  have i1 : W.cell? ⟨w.heap.size, 1, none⟩ = some (.int .i64 ent) := by rw [← HW.out]; simp [go_sem]
  have i2 : W.cell? ⟨w.heap.size, 2, none⟩ = some (.slice A2 mem.length c2) := by rw [← HW.out]; simp [go_sem]
  have HTz : Hid (Tz w) := hTz
  have HT : Hid (IntsAt w A1 .u32 text) := hT
  have HM : Hid (IntsAt w A2 .i64 mem) := hM
  have HR : Hid (∀ i, i < text.length → 0 ≤ nth text i ∧ nth text i < 4294967296) := hR
  have HP : Hid (IntsAt w A .i64 P) := hP
  have HPr : Hid (∀ i, i < P.length → nth P i ≤ 9223372036854775807) := hPr
  have CM := much_any A1 A2 c1 c2 ent text mem W
  clear hTz hT hM hR hP hPr
  go_enter Tryz.func4, Tryz.ntmps4
  go_upto_region 1 with fail
  rw [HW.out]
  clear HW
  go_wp2_with fail
  refine CM.mono ?_
  rintro e w1 ⟨rfl, hb1⟩
  have HB1 : Hid (Below w.heap.size w w1) := lb_trans HB.out hb1
  have j0 := lkeep hb1 i0
  have j1 := lkeep hb1 i1
  have j2 := lkeep hb1 i2
  have CW1 := fun wx (hb : Below w.heap.size w wx) => works_any wx (HTz.out.below hb)
  clear CM hb1 i0 i1 i2 HB
  by_cases hmu : muchB text mem = true ∨ 600 < P.length
  · have hB1 := HB1.out
    by_cases hm1 : muchB text mem = true
    · rw [hm1]
      go_wp2_with (go_at_call 6; refine (CW1 _ hB1).mono ?_; rintro e w2 ⟨rfl, hb2⟩)
      go_ret
      exact ⟨rfl, lb_trans hB1 hb2⟩
    · have hm2 : muchB text mem = false := by simpa using hm1
      have hP5 : 600 < P.length := hmu.resolve_left hm1
      have hP6 : (600 : Int) < (P.length : Int) := by omega
      rw [hm2]
      go_wp2_with (go_at_call 6; refine (CW1 _ hB1).mono ?_; rintro e w2 ⟨rfl, hb2⟩)
      go_ret
      exact ⟨rfl, lb_trans hB1 hb2⟩
  have hm1 : muchB text mem = false := by
    cases h : muchB text mem with
    | false => rfl
    | true => exact absurd (.inl h) hmu
  have hPl : P.length ≤ 600 := by
    have h : ¬ 600 < P.length := fun h => hmu (.inr h)
    omega
  have hP6 : decide ((600 : Int) < (P.length : Int)) = false := decide_eq_false (by omega)
  have hm2 := hm1
  unfold muchB at hm2
  rw [Bool.or_eq_false_iff, decide_eq_false_iff_not, decide_eq_false_iff_not] at hm2
  obtain ⟨htl, hml⟩ := hm2
  rw [hm1]
  clear hmu hm1
  have CK := refcheck_any A1 A2 c1 mem.length c2 ent text w1 (HT.out.keep HB1.out) HR.out (by omega) (by omega)
  obtain ⟨E, hE⟩ : ∃ E, Hid ((checkI text mem.length ent).1 = E) := ⟨_, rfl⟩
  unfold ChkP at CK
  rw [hE.out] at CK
  generalize (checkI text mem.length ent).2 = N2 at CK
  go_upto_region 4 with (go_at_call 12; refine CK.mono ?_; rintro e w2 ⟨rfl, hb2⟩)
  have HB2 : Hid (Below w.heap.size w w2) := lb_trans HB1.out hb2
  have CI := copyimg_any A1 A2 c1 c2 text mem ent w2 (HT.out.keep HB2.out) (HM.out.keep HB2.out) h01 h02 (by omega) (by omega)
  replace j0 := lkeep hb2 j0
  replace j1 := lkeep hb2 j1
  replace j2 := lkeep hb2 j2
  clear hb2 CK
  go_upto_region 5 with (go_at_call 13; refine CI.mono ?_; rintro e w3 ⟨B1, B2, k1, k2, rfl, hRI, hb3⟩; have HRI : Hid (RowsI w3 w2.heap.size B1 B2 k1 k2 text mem) := hRI; have HB3 : Hid (Below w2.heap.size w2 w3) := hb3; clear hRI hb3)
  obtain ⟨W4, HW4⟩ : ∃ W4, Hid (w3.alloc (.cells #[.slice B1 text.length k1, .int .i64 ent, .slice B2 mem.length k2] 31) = W4) := ⟨_, rfl⟩
  have HN4 : Hid (Below w3.heap.size w3 W4) := by unfold Hid; rw [← HW4.out]; exact lb_alloc (Below.refl _ _) _
  have HB4 : Hid (Below w.heap.size w W4) := lb_trans (lb_trans HB2.out HB3.out) HN4.out
  have HRI4 : Hid (RowsI W4 w2.heap.size B1 B2 k1 k2 text mem) := HRI.out.keep HN4.out
  have x0 : W4.cell? ⟨w3.heap.size, 0, none⟩ = some (.slice B1 text.length k1) := by rw [← HW4.out]; simp [go_sem]
  have x1 : W4.cell? ⟨w3.heap.size, 1, none⟩ = some (.int .i64 ent) := by rw [← HW4.out]; simp [go_sem]
  have x2 : W4.cell? ⟨w3.heap.size, 2, none⟩ = some (.slice B2 mem.length k2) := by rw [← HW4.out]; simp [go_sem]
  have HJ : Hid (∀ W, Below W4.heap.size W4 W → (W.cell? ⟨w.heap.size, 0, none⟩ = some (.slice A1 text.length c1) ∧ W.cell? ⟨w.heap.size, 1, none⟩ = some (.int .i64 ent) ∧ W.cell? ⟨w.heap.size, 2, none⟩ = some (.slice A2 mem.length c2))) := fun W hb => ⟨lkeep (lb_trans (lb_trans HB3.out HN4.out) hb) j0, lkeep (lb_trans (lb_trans HB3.out HN4.out) hb) j1, lkeep (lb_trans (lb_trans HB3.out HN4.out) hb) j2⟩
  rw [HW4.out]
  obtain ⟨b9, e9⟩ : ∃ b, w3.heap.size = b := ⟨_, rfl⟩
  rw [e9] at x0 x1 x2 ⊢
  have HLk : Hid (∀ W, Below W4.heap.size W4 W → Below W4.heap.size W4 W ∧ (W.cell? ⟨b9, 0, none⟩ = some (.slice B1 text.length k1) ∧ W.cell? ⟨b9, 1, none⟩ = some (.int .i64 ent) ∧ W.cell? ⟨b9, 2, none⟩ = some (.slice B2 mem.length k2))) := fun W hb => ⟨hb, lkeep hb x0, lkeep hb x1, lkeep hb x2⟩
  have htk : Hid (text.length ≤ k1) := own_cap HRI4.out.r1
  have CN := fun wx (hb : Below W4.heap.size W4 wx) => copyints_u A cP P wx (HP.out.keep (lb_trans HB4.out hb)) h03 (by omega)
  have CSp := fun (O : Option Addr) (k : Nat) (hk : Hid (P.length ≤ k)) wx (hb : Below W4.heap.size W4 wx) (hO : Hid (IntsAt wx O .i64 P)) => (spotsof_any B1 B2 k1 mem.length k2 ent text n O k P wx (HTz.out.below (lb_trans HB4.out hb)) (row_ints (HRI4.out.keep hb).r1) HR.out htk.out (by omega) (by omega) hO.out (by omega) hk.out HPr.out).mono (fun _ _ h => spu h)
  rw [hE.out] at CSp
  clear HW4 e9 j0 j1 j2 HRI HN4 CI HB1 HB2 HB3 h01 h02
  have BX : Below W4.heap.size W4 W4.drew := (Below.refl _ _).drew
  go_cut [10, 11] (fun v10 v11 wc => ∃ (A4 : Option Addr) (L : List Spt) (c4 : Nat) (f : Int), v10 = .slice A4 L.length c4 ∧ v11 = .int .i64 f ∧ Hid (SpAt wc A4 L) ∧ Hid (SpU text ent E n P f L) ∧ Hid (Below W4.heap.size W4 wc))
  case first =>
    go_region_held3 (fun W => Below W4.heap.size W4 W ∧ (W.cell? ⟨b9, 0, none⟩ = some (.slice B1 text.length k1) ∧ W.cell? ⟨b9, 1, none⟩ = some (.int .i64 ent) ∧ W.cell? ⟨b9, 2, none⟩ = some (.slice B2 mem.length k2))) ((refine HLk.out _ ?_; (repeat (first | (with_reducible (first | assumption | exact Below.refl _ _ | exact (‹Below _ _ _ ∧ _›).1 | apply Below.drew | apply lb_alloc | (refine Below.setCell ?_ ?_ _) | refine lb_trans ?_ hb)) | exact Nat.le_refl _ | exact hz2 | omega | (simp; done) | (simp; omega))); done)) ((first | (go_at_call 15; refine (CN _ (by first | exact BX | exact (‹Below _ _ _ ∧ _›).1)).mono ?_; rintro e w5 ⟨O, k, rfl, hO, hk, hb⟩; have HB5 : Hid (Below W4.heap.size W4 w5) := lb_trans (by first | exact BX | exact (‹Below _ _ _ ∧ _›).1) hb) | (go_at_call 14; refine (CSp O k hk _ (by first | exact BX | exact (‹Below _ _ _ ∧ _›).1) hO).mono ?_; rintro e w6 ⟨A4, L, c4, f, rfl, hb, hS, hU⟩; have HSp : Hid (SpAt w6 A4 L) := hS; have HU : Hid (SpU text ent E n P f L) := hU; clear hS hU)))
    all_goals (
      rename_i hS
      have sB : Hid _ := hS.1
      clear hS
      go_wp2_with fail
      go_meet
      exact ⟨_, _, _, _, rfl, rfl, HSp, HU, sB⟩)
  case rest =>
    obtain ⟨A4, L, c4, f, rfl, rfl, HSp, HU, HBc⟩ := hcut
    obtain ⟨V1, rfl⟩ : ∃ V, V = wc := ⟨wc, rfl⟩
    clear CN CSp BX
    by_cases hE0 : E = 0
    · subst hE0
      have hMy := check_mayI hE.out
      have htl4 : text.length ≤ 16384 := hMy.past.len
      obtain ⟨a1, ea, -⟩ := HT.out 0 hMy.past.pos
      subst ea
      have HBv : Hid (Below w.heap.size w V1) := lb_trans HB4.out HBc.out
      have CSee := see_any a1 A2 c1 mem.length c2 ent text V1 (HT.out.keep HBv.out) HR.out hMy kc
      obtain ⟨m0, m1, m2⟩ := HJ.out V1 HBc.out
      clear hMy x0 x1 x2
      go_upto_region 9 with (go_at_call 16; refine CSee.mono ?_; rintro e w6 ⟨Ab, cb, ah, G, rfl, hX6, hb6⟩; have HX6 : Hid (LkAt w6 a1 Ab ah ent text G) := hX6; have HB6 : Hid (Below V1.heap.size V1 w6) := hb6; clear hX6 hb6)
      obtain ⟨W7, HW7⟩ : ∃ W7, Hid (w6.alloc (.cells #[.slice (some a1) text.length c1, .int .i64 ent, .slice A2 mem.length c2, .slice Ab (blkL text ent).length cb, .slice (some ah) text.length text.length] 47) = W7) := ⟨_, rfl⟩
      have HN7 : Hid (Below w6.heap.size w6 W7) := by unfold Hid; rw [← HW7.out]; exact lb_alloc (Below.refl _ _) _
      have HB7 : Hid (Below W4.heap.size W4 W7) := lb_trans (lb_trans HBc.out HB6.out) HN7.out
      have y0 : W7.cell? ⟨w6.heap.size, 0, none⟩ = some (.slice (some a1) text.length c1) := by rw [← HW7.out]; simp [go_sem]
      have y1 : W7.cell? ⟨w6.heap.size, 1, none⟩ = some (.int .i64 ent) := by rw [← HW7.out]; simp [go_sem]
      have y2 : W7.cell? ⟨w6.heap.size, 2, none⟩ = some (.slice A2 mem.length c2) := by rw [← HW7.out]; simp [go_sem]
      have y3 : W7.cell? ⟨w6.heap.size, 3, none⟩ = some (.slice Ab (blkL text ent).length cb) := by rw [← HW7.out]; simp [go_sem]
      have y4 : W7.cell? ⟨w6.heap.size, 4, none⟩ = some (.slice (some ah) text.length text.length) := by rw [← HW7.out]; simp [go_sem]
      rw [HW7.out]
      obtain ⟨b7, e7⟩ : ∃ b, w6.heap.size = b := ⟨_, rfl⟩
      rw [e7] at y0 y1 y2 y3 y4 ⊢
      have HX7 : Hid (LkAt W7 a1 Ab ah ent text G) := HX6.out.keep HN7.out
      have HSp7 : Hid (SpAt W7 A4 L) := HSp.out.keep (lb_trans HB6.out HN7.out)
      have CR := (spotsr_any a1 A2 Ab c1 mem.length c2 cb ent text ah G n A cP P W7 HX7.out HR.out htl4 kc (HP.out.keep (lb_trans HB4.out HB7.out)) (by omega) HPr.out).mono (fun _ _ h => rsu h)
      unfold LkV at CR
      clear HW7 e7 m0 m1 m2 CSee HX6 HN7 HSp HB6
      go_upto_region 10 with (go_at_call 17; refine CR.mono ?_; rintro e w8 ⟨A5, L5, c5, ob, rfl, hb8, hS5, hU5⟩; have HS5 : Hid (SpAt w8 A5 L5) := hS5; have HU5 : Hid (RsU text ent G n P ob L5) := hU5; have HB78 : Hid (Below W7.heap.size W7 w8) := hb8; clear hS5 hU5 hb8)
      have HTwo := two_u HX7.out.bhi HU.out HU5.out
      have hL5 : L5.length ≤ 1048576 := by
        rcases HU5.out with ⟨_, _, e⟩ | ⟨_, _, e⟩
        · rw [e]; exact Nat.zero_le _
        · rw [e]
          have := spots_len text ent G n.toNat P
          omega
      have HB8 : Hid (Below W4.heap.size W4 w8) := lb_trans HB7.out HB78.out
      have HBw8 : Hid (Below w.heap.size w w8) := lb_trans HB4.out HB8.out
      have HX8 : Hid (LkAt w8 a1 Ab ah ent text G) := HX7.out.keep HB78.out
      have HSp8 : Hid (SpAt w8 A4 L) := HSp7.out.keep HB78.out
      obtain ⟨m0, m1, m2⟩ := HJ.out w8 HB8.out
      obtain ⟨-, x0, x1, x2⟩ := HLk.out w8 HB8.out
      have HM7 : Hid (∀ W, Below w8.heap.size w8 W → ((W.cell? ⟨b7, 0, none⟩ = some (.slice (some a1) text.length c1) ∧ W.cell? ⟨b7, 1, none⟩ = some (.int .i64 ent) ∧ W.cell? ⟨b7, 2, none⟩ = some (.slice A2 mem.length c2)) ∧ W.cell? ⟨b7, 3, none⟩ = some (.slice Ab (blkL text ent).length cb) ∧ W.cell? ⟨b7, 4, none⟩ = some (.slice (some ah) text.length text.length))) := fun W hb => ⟨⟨lkeep (lb_trans HB78.out hb) y0, lkeep (lb_trans HB78.out hb) y1, lkeep (lb_trans HB78.out hb) y2⟩, lkeep (lb_trans HB78.out hb) y3, lkeep (lb_trans HB78.out hb) y4⟩
      have HRI8 : Hid (RowsI w8 w2.heap.size B1 B2 k1 k2 text mem) := HRI4.out.keep HB8.out
      have CG := fun wx (hb : Below w8.heap.size w8 wx) => eqimg_same B1 B2 (some a1) A2 k1 k2 c1 c2 text mem ent wx (row_ints (HRI8.out.keep hb).r1) (row_ints (HRI8.out.keep hb).r2) (HT.out.keep (lb_trans HBw8.out hb)) (HM.out.keep (lb_trans HBw8.out hb)) (by omega) (by omega)
      clear y0 y1 y2 y3 y4 CR HX7 HSp7 HU HU5 HB78 HB7
      go_cut [96] (fun v96 wc => v96 = .bool false ∧ Hid (Below w8.heap.size w8 wc))
      case first =>
        rcases HTwo with ⟨rfl, rfl, rfl⟩ | ⟨rfl, rfl, rfl⟩
        · clear HS5 HSp8
          go_wp2_with (go_at_call 19; refine (CG _ (Below.refl _ _)).mono ?_; rintro e w9 ⟨rfl, hb9⟩)
          go_meet
          exact ⟨rfl, hb9⟩
        · have CQ := eqspots_any A4 A5 c4 c5 _ _ w8 HSp8.out HS5.out hL5
          simp only [decide_true] at CQ
          clear HS5 HSp8
          go_wp2_with (first | (go_at_call 18; refine CQ.mono ?_; rintro e w9 ⟨rfl, hb9⟩; replace m0 := lkeep hb9 m0; replace m1 := lkeep hb9 m1; replace m2 := lkeep hb9 m2; replace x0 := lkeep hb9 x0; replace x1 := lkeep hb9 x1; replace x2 := lkeep hb9 x2) | (go_at_call 19; refine (CG _ hb9).mono ?_; rintro e w10 ⟨rfl, hb10⟩))
          go_meet
          exact ⟨rfl, lb_trans hb9 hb10⟩
      case rest =>
        obtain ⟨rfl, HB9⟩ := hcut
        obtain ⟨V2, rfl⟩ : ∃ V, V = wc := ⟨wc, rfl⟩
        have HBw2 : Hid (Below w.heap.size w V2) := lb_trans HBw8.out HB9.out
        have HX2 : Hid (LkAt V2 a1 Ab ah ent text G) := HX8.out.keep HB9.out
        have HRI2 : Hid (RowsI V2 w2.heap.size B1 B2 k1 k2 text mem) := HRI8.out.keep HB9.out
        have HM7 : Hid (∀ W, Below V2.heap.size V2 W → ((W.cell? ⟨b7, 0, none⟩ = some (.slice (some a1) text.length c1) ∧ W.cell? ⟨b7, 1, none⟩ = some (.int .i64 ent) ∧ W.cell? ⟨b7, 2, none⟩ = some (.slice A2 mem.length c2)) ∧ W.cell? ⟨b7, 3, none⟩ = some (.slice Ab (blkL text ent).length cb) ∧ W.cell? ⟨b7, 4, none⟩ = some (.slice (some ah) text.length text.length))) := fun W hb => HM7.out W (lb_trans HB9.out hb)
        have HM9 : Hid (∀ W, Below V2.heap.size V2 W → (W.cell? ⟨b9, 0, none⟩ = some (.slice B1 text.length k1) ∧ W.cell? ⟨b9, 1, none⟩ = some (.int .i64 ent) ∧ W.cell? ⟨b9, 2, none⟩ = some (.slice B2 mem.length k2))) := fun W hb => (HLk.out W (lb_trans HB8.out (lb_trans HB9.out hb))).2
        have HM3 : Hid (∀ W, Below V2.heap.size V2 W → (W.cell? ⟨w.heap.size, 0, none⟩ = some (.slice (some a1) text.length c1) ∧ W.cell? ⟨w.heap.size, 1, none⟩ = some (.int .i64 ent) ∧ W.cell? ⟨w.heap.size, 2, none⟩ = some (.slice A2 mem.length c2))) := fun W hb => HJ.out W (lb_trans HB8.out (lb_trans HB9.out hb))
        have CWh : Hid (∀ wx, Below w.heap.size w wx → Calls Tryz.prog 6 #[] wx fun e w' => e = .returned (.bool true) ∧ Below wx.heap.size wx w') := CW1
        clear HTwo CG m0 m1 m2 x0 x1 x2 HS5 HSp8 HX8 HRI8 HRI4 HLk HJ CW1 HM HB4 HBc HBv HB8 HBw8 HB9
        go_wp2
        go_loopw [15] (fun v wr => ∃ k : Nat, v = .int .i64 (k : Int) ∧ k ≤ P.length ∧ Hid (Below V2.heap.size V2 wr)) (fun v _ => P.length - (intOf v).toNat)
        case atStart => exact ⟨0, rfl, Nat.zero_le _, Below.refl _ _⟩
        case round =>
          obtain ⟨k, rfl, hk, HBr⟩ := hrel
          have HBR : Hid (Below w.heap.size w wr) := lb_trans HBw2.out HBr.out
          by_cases hlt : k < P.length ∧ k < 20
          · have hlt1 : (k : Int) < (P.length : Int) := by omega
            have hlt2 : (k : Int) < 20 := by omega
            obtain ⟨aP, eP, q⟩ := (HP.out.keep HBR.out) k hlt.1
            subst eP
            have hv := HPr.out k hlt.1
            have hkP := hlt.1
            clear hlt
            obtain ⟨⟨⟨v1, v2, v3⟩, ob3, g⟩, ha⟩ : ∃ a, Hid (ansP text ent G n (nth P k) = a) := ⟨_, rfl⟩
            have CS := fun wx (hb : Below wr.heap.size wr wx) => (spot_any B1 B2 k1 mem.length k2 ent text n (nth P k) wx (HTz.out.below (lb_trans HBR.out hb)) (row_ints (HRI2.out.keep (lb_trans HBr.out hb)).r1) HR.out htk.out (by omega) (by omega) hv).mono (fun _ _ h => spot_det hE.out HX2.out.bhi h)
            simp only [ha.out] at CS
            generalize nth P k = p at *
            have HLk : Hid (∀ W, Below wr.heap.size wr W → Below wr.heap.size wr W ∧ (W.cell? ⟨b9, 0, none⟩ = some (.slice B1 text.length k1) ∧ W.cell? ⟨b9, 1, none⟩ = some (.int .i64 ent) ∧ W.cell? ⟨b9, 2, none⟩ = some (.slice B2 mem.length k2)) ∧ W.cell? (aP.add k) = some (.int .i64 p)) := fun W hb => ⟨hb, HM9.out W (lb_trans HBr.out hb), lkeep hb q⟩
            have HQ : Hid (∀ W, Below wr.heap.size wr W → W.cell? (aP.add k) = some (.int .i64 p)) := fun W hb => lkeep hb q
            clear q
            have BX : Below wr.heap.size wr wr.drew := (Below.refl _ _).drew
            go_upto_region 15 with fail
            go_cut [16, 17, 18] (fun v16 v17 v18 wc => ∃ b : Nat, v16 = .pointer (some ⟨b, 0, none⟩) ∧ v17 = .bool ob3 ∧ v18 = .int .i64 g ∧ wc.cell? ⟨b, 0, none⟩ = some (.int .i64 v1) ∧ wc.cell? ⟨b, 1, none⟩ = some (.int .i8 v2) ∧ wc.cell? ⟨b, 2, none⟩ = some (.int .i8 v3) ∧ Hid (Below wr.heap.size wr wc))
            case first =>
              go_region_held3 (fun W => Below wr.heap.size wr W ∧ (W.cell? ⟨b9, 0, none⟩ = some (.slice B1 text.length k1) ∧ W.cell? ⟨b9, 1, none⟩ = some (.int .i64 ent) ∧ W.cell? ⟨b9, 2, none⟩ = some (.slice B2 mem.length k2)) ∧ W.cell? (aP.add k) = some (.int .i64 p)) ((refine HLk.out _ ?_; (repeat (first | (with_reducible (first | assumption | exact Below.refl _ _ | exact (‹Below _ _ _ ∧ _›).1 | apply Below.drew | apply lb_alloc | (refine Below.setCell ?_ ?_ _) | refine lb_trans ?_ hb)) | exact Nat.le_refl _ | exact hz2 | omega | (simp; done) | (simp; omega))); done)) ((go_at_call 20; refine (CS _ (by first | exact BX | exact (‹Below _ _ _ ∧ _›).1)).mono ?_; rintro e w1 ⟨rfl, hb⟩; have hz := hb.size; have hz2 : wr.heap.size ≤ w1.heap.size := (by simp at hz; omega); (first | (refine have_c3 (wr.heap.size) (.int .i64 0) (.int .i8 0) (.int .i8 0) hb ?_ ?_; (refine ⟨⟨?_, ?_⟩, ⟨?_, ?_⟩, ⟨?_, ?_⟩⟩ <;> (simp [go_sem]; done)); intro e0 e1 e2 e3 e4 e5) | skip)))
              all_goals (
                rename_i hS
                have sB : Hid _ := hS.1
                clear hS
                go_wp2_with fail
                go_meet
                exact ⟨_, rfl, rfl, rfl, by first | (simp [go_sem]; done) | (simp [go_sem, *]; done), by first | (simp [go_sem]; done) | (simp [go_sem, *]; done), by first | (simp [go_sem]; done) | (simp [go_sem, *]; done), sB⟩)
            case rest =>
              obtain ⟨b, rfl, rfl, rfl, t0, t1, t2, HBc⟩ := hcut
              obtain ⟨V3, rfl⟩ : ∃ V, V = wc := ⟨wc, rfl⟩
              have CFt := fun wx => fits_any (some a1) A2 c1 mem.length c2 ent text n p wx (by omega) hv
              obtain ⟨m0, m1, m2⟩ := HM3.out V3 (lb_trans HBr.out HBc.out)
              have q3 := HQ.out V3 HBc.out
              clear CS HLk BX
              cases hf : fitB text n p with
              | false =>
                have ha' := ha.out
                unfold ansP at ha'
                rw [hf, if_neg (by simp)] at ha'
                obtain rfl : v1 = 0 := (congrArg (·.1.1) ha').symm
                obtain rfl : v2 = 0 := (congrArg (·.1.2.1) ha').symm
                obtain rfl : v3 = 0 := (congrArg (·.1.2.2) ha').symm
                obtain rfl : ob3 = false := (congrArg (·.2.1) ha').symm
                obtain rfl : g = 1 := (congrArg (·.2.2) ha').symm
                simp only [hf] at CFt
                clear hf ha ha' HM7 HM9 HM3 HQ
                go_upto_region 16 with fail
                have e0 := cell_regrown m0
                have e1 := cell_regrown m1
                have e2 := cell_regrown m2
                have e3 := cell_regrown q3
                have cF := fun d os => Calls.regrown_of (CFt (grow (redrawn V3 d) os))
                clear CFt
                refine wp_region_quiet_below (by kernel_rfl) (by kernel_rfl) ?_
                repeat (go_big_quiet_step (exact cF _ _))
                refine wpQuiet_nil ?_
                intro w5 hw5
                obtain ⟨pw, hw5⟩ := hw5
                have HB5 : Hid (Below V3.heap.size V3 w5) := by unfold Hid; rw [hw5]; exact below_regrown V3 pw.d pw.os
                clear hw5 pw e0 e1 e2 e3 cF
                replace t0 := lkeep HB5.out t0
                replace t1 := lkeep HB5.out t1
                replace t2 := lkeep HB5.out t2
                go_wp2
                go_roundw
                case rel => exact ⟨k + 1, by go_num, by omega, lb_trans HBr.out (lb_trans HBc.out HB5.out)⟩
                case measure => simp [intOf]; omega
              | true =>
                have ha' := ha.out
                unfold ansP at ha'
                rw [hf, if_pos rfl] at ha'
                obtain ⟨f1, f2, f3⟩ := fit_yes hf
                simp only [hf] at CFt
                obtain ⟨nn, rfl⟩ : ∃ nn : Nat, n = (nn : Int) := ⟨n.toNat, by omega⟩
                obtain ⟨pp, rfl⟩ : ∃ pp : Nat, p = (pp : Int) := ⟨p.toNat, by omega⟩
                have hpn : pp + nn ≤ text.length := by omega
                have hnm : Hid (nn = (nn - 1) + 1) := by unfold Hid; omega
                have h1 : resS (pp : Int) (spotN text ent G nn pp) = (v1, v2, v3) := congrArg (·.1) ha'
                have h2 : okS (spotN text ent G nn pp) = ob3 := congrArg (·.2.1) ha'
                obtain rfl : g = 0 := (congrArg (·.2.2) ha').symm
                clear hf ha ha' f1 f2 f3
                go_upto_region 16 with fail
                have e0 := cell_regrown m0
                have e1 := cell_regrown m1
                have e2 := cell_regrown m2
                have e3 := cell_regrown q3
                have cF := fun d os => Calls.regrown_of (CFt (grow (redrawn V3 d) os))
                clear CFt
                refine wp_region_quiet_below (by kernel_rfl) (by kernel_rfl) ?_
                repeat (go_big_quiet_step (exact cF _ _))
                refine wpQuiet_nil ?_
                intro w5 hw5
                obtain ⟨pw, hw5⟩ := hw5
                have HB5 : Hid (Below V3.heap.size V3 w5) := by unfold Hid; rw [hw5]; exact below_regrown V3 pw.d pw.os
                clear hw5 pw e0 e1 e2 e3 cF
                have HBr5 : Hid (Below wr.heap.size wr w5) := lb_trans HBc.out HB5.out
                have HBV5 : Hid (Below V2.heap.size V2 w5) := lb_trans HBr.out HBr5.out
                have CR := fun wx (hb : Below w5.heap.size w5 wx) => spotr_any a1 A2 Ab c1 mem.length c2 cb ent text ah G nn (nn - 1) pp wx (HX2.out.keep (lb_trans HBV5.out hb)) HR.out htl4 kc hnm.out hpn
                unfold RspP LkV at CR
                simp only [h1, h2] at CR
                have HLk : Hid (∀ W, Below w5.heap.size w5 W → Below w5.heap.size w5 W ∧ ((W.cell? ⟨b7, 0, none⟩ = some (.slice (some a1) text.length c1) ∧ W.cell? ⟨b7, 1, none⟩ = some (.int .i64 ent) ∧ W.cell? ⟨b7, 2, none⟩ = some (.slice A2 mem.length c2)) ∧ W.cell? ⟨b7, 3, none⟩ = some (.slice Ab (blkL text ent).length cb) ∧ W.cell? ⟨b7, 4, none⟩ = some (.slice (some ah) text.length text.length)) ∧ W.cell? (aP.add k) = some (.int .i64 (pp : Int))) := fun W hb => ⟨hb, HM7.out W (lb_trans HBV5.out hb), HQ.out W (lb_trans HBr5.out hb)⟩
                have BX : Below w5.heap.size w5 w5.drew := (Below.refl _ _).drew
                replace t0 := lkeep HB5.out t0
                replace t1 := lkeep HB5.out t1
                replace t2 := lkeep HB5.out t2
                have HT0 : Hid (∀ W, Below w5.heap.size w5 W → W.cell? ⟨b, 0, none⟩ = some (.int .i64 v1) ∧ W.cell? ⟨b, 1, none⟩ = some (.int .i8 v2) ∧ W.cell? ⟨b, 2, none⟩ = some (.int .i8 v3)) := fun W hb => ⟨lkeep hb t0, lkeep hb t1, lkeep hb t2⟩
                clear h1 h2 hpn HM7 HM9 HM3 HQ m0 m1 m2 q3 t0 t1 t2
                go_upto_region 19 with fail
                go_cut [19, 20] (fun v19 v20 wc => ∃ b' : Nat, v19 = .pointer (some ⟨b', 0, none⟩) ∧ v20 = .bool ob3 ∧ wc.cell? ⟨b', 0, none⟩ = some (.int .i64 v1) ∧ wc.cell? ⟨b', 1, none⟩ = some (.int .i8 v2) ∧ wc.cell? ⟨b', 2, none⟩ = some (.int .i8 v3) ∧ Hid (Below w5.heap.size w5 wc))
                case first =>
                  go_region_held3 (fun W => Below w5.heap.size w5 W ∧ ((W.cell? ⟨b7, 0, none⟩ = some (.slice (some a1) text.length c1) ∧ W.cell? ⟨b7, 1, none⟩ = some (.int .i64 ent) ∧ W.cell? ⟨b7, 2, none⟩ = some (.slice A2 mem.length c2)) ∧ W.cell? ⟨b7, 3, none⟩ = some (.slice Ab (blkL text ent).length cb) ∧ W.cell? ⟨b7, 4, none⟩ = some (.slice (some ah) text.length text.length)) ∧ W.cell? (aP.add k) = some (.int .i64 (pp : Int))) ((refine HLk.out _ ?_; (repeat (first | (with_reducible (first | assumption | exact Below.refl _ _ | exact (‹Below _ _ _ ∧ _›).1 | apply Below.drew | apply lb_alloc | (refine Below.setCell ?_ ?_ _) | refine lb_trans ?_ hb)) | exact Nat.le_refl _ | exact hz2 | omega | (simp; done) | (simp; omega))); done)) ((go_at_call 22; refine (CR _ (by first | exact BX | exact (‹Below _ _ _ ∧ _›).1)).mono ?_; rintro e w1 ⟨rfl, hb⟩; have hz := hb.size; have hz2 : w5.heap.size ≤ w1.heap.size := (by simp at hz; omega); (first | (refine have_c3 (w5.heap.size) (.int .i64 0) (.int .i8 0) (.int .i8 0) hb ?_ ?_; (refine ⟨⟨?_, ?_⟩, ⟨?_, ?_⟩, ⟨?_, ?_⟩⟩ <;> (simp [go_sem]; done)); intro e0 e1 e2 e3 e4 e5) | skip)))
                  all_goals (
                    rename_i hS
                    have sB : Hid _ := hS.1
                    clear hS
                    go_wp2_with fail
                    go_meet
                    exact ⟨_, rfl, rfl, by first | (simp [go_sem]; done) | (simp [go_sem, *]; done), by first | (simp [go_sem]; done) | (simp [go_sem, *]; done), by first | (simp [go_sem]; done) | (simp [go_sem, *]; done), sB⟩)
                case rest =>
                  obtain ⟨b', rfl, rfl, s0, s1, s2, HB6⟩ := hcut
                  obtain ⟨t0, t1, t2⟩ := HT0.out wc HB6.out
                  clear CR BX HLk HT0
                  go_wp2
                  go_roundw
                  case rel => exact ⟨k + 1, by go_num, by omega, lb_trans HBV5.out HB6.out⟩
                  case measure => simp [intOf]; omega
          · have CW := CWh.out wr HBR.out
            by_cases hk2 : k < P.length
            · have hlt1 : (k : Int) < (P.length : Int) := by omega
              have hlt2 : decide ((k : Int) < 20) = false := decide_eq_false (by omega)
              clear hlt HM7 HM9 HM3
              go_wp2_with (go_at_call 6; refine CW.mono ?_; rintro e w5 ⟨rfl, hb5⟩)
              go_ret
              exact ⟨rfl, lb_trans HBR.out hb5⟩
            · have hlt1 : decide ((k : Int) < (P.length : Int)) = false := decide_eq_false (by omega)
              clear hlt HM7 HM9 HM3
              go_wp2_with (go_at_call 6; refine CW.mono ?_; rintro e w5 ⟨rfl, hb5⟩)
              go_ret
              exact ⟨rfl, lb_trans HBR.out hb5⟩
    · have hne : (E != 0) = true := by simpa using hE0
      have HBe : Hid (Below w.heap.size w V1) := lb_trans HB4.out HBc.out
      have CW := CW1 V1 HBe.out
      obtain ⟨rfl, rfl⟩ : f = E ∧ L = [] := by
        rcases HU.out with ⟨_, h⟩ | ⟨h, _⟩ | ⟨h, _⟩
        · exact h
        · exact absurd h hE0
        · exact absurd h hE0
      clear HU HSp HJ HLk CW1 x0 x1 x2
      go_wp2_with (go_at_call 6; refine CW.mono ?_; rintro e w5 ⟨rfl, hb5⟩)
      go_ret
      exact ⟨rfl, lb_trans HBe.out hb5⟩

end Go.Proofs.YtmlhnnmelopleaaGreatDoor
