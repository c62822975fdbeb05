/-
  The row of closures that tells the classes.
-/
import Derived.Test.YtmlhnnmelopleaaGreatDoorProg
import Derived.WalkKit
import Derived.WalkSpells
import Derived.WalkLawsBesides
import Derived.RowKit3
import Derived.Below
import Derived.Deep.QuietTactic
import Derived.BigQuiet
import Derived.WalkSmall
import Derived.Laws.Rows
import Derived.Test.YtmlhnnmelopleaaGreatDoorPs19
import Derived.Test.YtmlhnnmelopleaaGreatDoorPs16
import Derived.Test.YtmlhnnmelopleaaGreatDoorPs15
import Derived.Test.YtmlhnnmelopleaaGreatDoorPs40
import Derived.Test.YtmlhnnmelopleaaGreatDoorPs30
namespace Go.Proofs.YtmlhnnmelopleaaGreatDoor
open Go.RowKit

/-- What the closures have caught. -/
structure ClsAt (w : World) (bk bl bb bz br bt : Nat) (text : List Int) (ent : Int) (H : Int → Nat) (n p m : Nat) (X : Option Addr) (cx : Nat) : Prop where
  k : w.cell? ⟨bk, 0, none⟩ = some (.int .i8 (kindN (cutN text p n)))
  l : w.cell? ⟨bl, 0, none⟩ = some (.slice X n cx)
  z : w.cell? ⟨bz, 0, none⟩ = some (.int .i64 (m : Int))
  r : w.cell? ⟨br, 0, none⟩ = some (.int .u16 ((allR (cutN text p n) n : Nat) : Int))
  t : w.cell? ⟨bt, 0, none⟩ = some (.int .u16 ((allW (cutN text p n) n : Nat) : Int))
  b : kindN (cutN text p n) = 3 → ∃ (hs : Addr) (cH : Nat), w.cell? ⟨bb, 0, none⟩ = some (.slice (some hs) text.length cH) ∧ IntsAt w (some hs) .u16 (setL H text.length) ∧ BhI text ent H
theorem ClsAt.keep {w w' : World} {bk bl bb bz br bt : Nat} {text : List Int} {ent : Int} {H : Int → Nat} {n p m : Nat} {X : Option Addr} {cx : Nat} (h : ClsAt w bk bl bb bz br bt text ent H n p m X cx) (hb : Below w.heap.size w w') : ClsAt w' bk bl bb bz br bt text ent H n p m X cx :=
  ⟨lkeep hb h.k, lkeep hb h.l, lkeep hb h.z, lkeep hb h.r, lkeep hb h.t, fun e => by
    obtain ⟨hs, cH, a, b, c⟩ := h.b e
    exact ⟨hs, cH, lkeep hb a, b.keep hb, c⟩⟩
def ClsV (bk bl bb bz br bt : Nat) : List Value := [.func (.func 75) #[] #[.pointer (some ⟨bk, 0, none⟩)], .func (.func 76) #[] #[.pointer (some ⟨bk, 0, none⟩)], .func (.func 77) #[] #[.pointer (some ⟨bk, 0, none⟩), .pointer (some ⟨bb, 0, none⟩), .pointer (some ⟨bz, 0, none⟩)], .func (.func 78) #[] #[.pointer (some ⟨bk, 0, none⟩), .pointer (some ⟨bl, 0, none⟩), .pointer (some ⟨bb, 0, none⟩), .pointer (some ⟨bz, 0, none⟩), .pointer (some ⟨br, 0, none⟩), .pointer (some ⟨bt, 0, none⟩)]]
def ClsP (text : List Int) (ent : Int) (n p m : Nat) (X : Option Addr) (cx : Nat) (w : World) (e : Ending) (w' : World) : Prop := ∃ (g bk bl bb bz br bt : Nat) (H : Int → Nat), e = .returned (.slice (some ⟨g, 0, none⟩) 4 4) ∧ (∀ i v, (ClsV bk bl bb bz br bt)[i]? = some v → w'.cell? ⟨g, i, none⟩ = some v) ∧ ClsAt w' bk bl bb bz br bt text ent H n p m X cx ∧ Below w.heap.size w w'
theorem have_ne {G : Prop} {a b : Nat} (h : a < b) (k : ¬ a = b → ¬ b = a → G) : G := k (by omega) (by omega)
theorem have_c {G : Prop} {w w1 : World} (p : Nat) (v : Value) (hb : Below w.heap.size w w1) (h : w.cell? ⟨p, 0, none⟩ = some v ∧ w.frozen? ⟨p, 0, none⟩ = false) (k : w1.cell? ⟨p, 0, none⟩ = some v → w1.frozen? ⟨p, 0, none⟩ = false → (∀ o, (w1.alloc o).cell? ⟨p, 0, none⟩ = some v) → (∀ o, (w1.alloc o).frozen? ⟨p, 0, none⟩ = false) → G) : G := by
  have hlt := World.block_lt_of_cell? w ⟨p, 0, none⟩ h.1
  have q := lkeep hb h.1
  have hlt1 := World.block_lt_of_cell? w1 ⟨p, 0, none⟩ q
  have f : w1.frozen? ⟨p, 0, none⟩ = false := by rw [hb.frozen (p := ⟨p, 0, none⟩) hlt]; exact h.2
  exact k q f (fun o => lkeep (lb_alloc (Below.refl _ _) o) q) (fun o => by rw [(lb_alloc (Below.refl w1.heap.size w1) o).frozen (p := ⟨p, 0, none⟩) hlt1]; exact f)
theorem one_box {w : World} {b : Nat} {A : Option Addr} {n c : Nat} {t : TypeId} (h : w.heap[b]? = some (.cells #[.slice A n c] t (0, 0))) {q : Addr} {K : IntKind} {x : Int} (hq : w.cell? q = some (.int K x)) : ¬ b = q.block := by
  intro e
  obtain ⟨qb, qo, qp⟩ := q
  have e : b = qb := e
  subst e
  cases qp with
  | some _ => simp [World.cell?, h] at hq
  | none =>
    simp [World.cell?, h] at hq
    cases qo with
    | zero => simp at hq
    | succ k => simp at hq
theorem scell_faq {w : World} {b i : Nat} {v u : Value} {q : Addr} (hbc : ¬ b = q.block) (h : w.cell? q = some u) : (w.setCell ⟨b, i, none⟩ v).cell? q = some u := by
  rw [World.cell?_setCell_far w ⟨b, i, none⟩ q v hbc]; exact h
set_option maxRecDepth 100000 in
set_option maxHeartbeats 8000000 in
theorem classes_any (B : Nat) (a1 : Addr) (A2 Ab : Option Addr) (c1 ml c2 cb : Nat) (ent : Int) (text : List Int) (n p m : Nat) (w : World) (hX : TxAt w B a1 A2 Ab c1 ml c2 cb ent text) (hR : ∀ i, i < text.length → 0 ≤ nth text i ∧ nth text i < 4294967296) (hE : (checkI text ml ent).1 = 0) (hl : text.length ≤ 16384) (hm : ml ≤ 1048576) (hc : text.length ≤ c1) (hnm : n = m + 1) (hp : p + n ≤ text.length) :
    Calls Tryz.prog 57 #[.pointer (some ⟨B, 0, none⟩), .slice (some (a1.add p)) n (c1 - p)] w (ClsP text ent n p m (some (a1.add p)) (c1 - p) w) := by
  subst hnm
  have hlen := cutN_len hp
  have hI := ints_cut hX.txt hp
  have hRc := range_cut hR hp
  obtain ⟨X, HX⟩ : ∃ X, Hid (w.alloc (.cells #[.slice (some (a1.add p)) (m + 1) (c1 - p)] 22) = X) := ⟨_, rfl⟩
  have HB : Hid (Below w.heap.size w X) := by unfold Hid; rw [← HX.out]; exact lb_alloc (Below.refl _ _) _
  have x0 : X.cell? ⟨w.heap.size, 0, none⟩ = some (.slice (some (a1.add p)) (m + 1) (c1 - p)) := by rw [← HX.out]; simp [go_sem]
  have hXs : w.heap.size < X.heap.size := by rw [← HX.out]; simp
  have CK := fun wx (hb : Below X.heap.size X wx) => kind_any (some (a1.add p)) (c1 - p) (cutN text p (m + 1)) wx (hI.keep (lb_trans HB.out hb)) hRc (by rw [hlen]; omega) (by rw [hlen]; omega)
  have CA := fun wx (hb : Below w.heap.size w wx) => allOK (some (a1.add p)) (c1 - p) (cutN text p (m + 1)) wx (hI.keep hb) hRc (by rw [hlen]; omega)
  unfold AllP at CA
  have CB := fun wx (hb : Below w.heap.size w wx) => behindOK.ok (some a1) A2 c1 ml c2 ent text wx (hX.txt.keep hb) hR hc (by omega) hm hE
  rw [hlen] at CK CA
  have HXt : Hid (TxAt w B a1 A2 Ab c1 ml c2 cb ent text) := hX
  have HKi : Hid (kindN (cutN text p (m + 1)) = 0 ∨ kindN (cutN text p (m + 1)) = 1 ∨ kindN (cutN text p (m + 1)) = 2 ∨ kindN (cutN text p (m + 1)) = 3) := kind_in _
  clear hX hI hRc hE hR hlen
  have hn2 : (m : Int) ≤ 16384 := by omega
  have hwm : IntKind.i64.wrap (m : Int) = (m : Int) := by simp [IntKind.wrap, IntKind.signed, IntKind.bits]; omega
  go_enter Tryz.func57, Tryz.ntmps57
  go_upto_region 1 with fail
  rw [HX.out]
  clear HX
  have BX : Below X.heap.size X X.drew := (Below.refl _ _).drew
  go_cut [5, 6] (fun v5 v6 wc => ∃ bk bz : Nat, v5 = .pointer (some ⟨bk, 0, none⟩) ∧ v6 = .pointer (some ⟨bz, 0, none⟩) ∧ wc.cell? ⟨bk, 0, none⟩ = some (.int .i8 (kindN (cutN text p (m + 1)))) ∧ wc.cell? ⟨bz, 0, none⟩ = some (.int .i64 (m : Int)) ∧ Hid (Below X.heap.size X wc))
  case first =>
    generalize kindN (cutN text p (m + 1)) = kd at *
    go_region_held3 (fun W => Below X.heap.size X W ∧ W.cell? ⟨w.heap.size, 0, none⟩ = some (.slice (some (a1.add p)) (m + 1) (c1 - p))) (first | (refine ⟨?_, lkeep ?_ x0⟩ <;> ((repeat (first | assumption | exact Below.refl _ _ | exact (‹Below _ _ _ ∧ _›).1 | apply Below.drew | apply lb_alloc | (refine Below.setCell ?_ ?_ _) | refine lb_trans ?_ hb | omega | (simp; done) | (simp; omega))); done))) ((go_at_call 8; refine (CK _ (by first | exact BX | exact (‹Below _ _ _ ∧ _›).1)).mono ?_; rintro e w1 ⟨rfl, hb⟩; have hz := hb.size; have hz2 : X.heap.size ≤ w1.heap.size := (by simp at hz; omega); (first | (refine have_ne (a := X.heap.size) (b := w1.heap.size) ?_ ?_; (simp at hz; omega); intro n1 n2) | skip); (first | (refine have_c (X.heap.size) (.int .i8 0) hb ?_ ?_; (constructor <;> (simp [go_sem]; done)); intro e0 g0 ae0 bg0) | skip); (first | (refine have_c (X.heap.size) (.int .i64 0) hb ?_ ?_; (constructor <;> (simp [go_sem]; done)); intro e1 g1 ae1 bg1) | skip); (first | (refine have_c (X.heap.size + 1) (.int .i8 0) hb ?_ ?_; (constructor <;> (simp [go_sem]; done)); intro e2 g2 ae2 bg2) | skip); (first | (refine have_c (X.heap.size + 1) (.int .i64 0) hb ?_ ?_; (constructor <;> (simp [go_sem]; done)); intro e3 g3 ae3 bg3) | skip)))
    all_goals (
      rename_i hS
      have sB : Hid _ := hS.1
      clear hS
      go_wp2_with fail
      go_meet
      exact ⟨_, _, rfl, rfl, by first | (simp [go_sem]; done) | (simp [go_sem, *]; done), by first | (simp [go_sem]; done) | (simp [go_sem, *]; done), sB⟩)
  case rest =>
    obtain ⟨bk, bz, rfl, rfl, q1, q2, HBc⟩ := hcut
    clear CK BX
    have HB1 : Hid (Below w.heap.size w wc) := lb_trans HB.out HBc.out
    have x1 := lkeep HBc.out x0
    have hmf := mkFnT
    clear x0 HB
    go_upto_region 2 with fail
    have CA1 := CA wc HB1.out
    clear CA
    go_upto_region 3 with (go_at_call 73; refine CA1.mono ?_; rintro e w1 ⟨rfl, hb1⟩)
    have HB2 : Hid (Below w.heap.size w w1) := lb_trans HB1.out hb1
    have y0 := lkeep hb1 x1
    have y1 := lkeep hb1 q1
    have y2 := lkeep hb1 q2
    clear x1 q1 q2 hb1 CA1 HB1 HBc hXs
    go_upto_region 4 with fail
    obtain ⟨R, hRR⟩ : ∃ R, Hid (allR (cutN text p (m + 1)) (m + 1) = R) := ⟨_, rfl⟩
    obtain ⟨T, hTT⟩ : ∃ T, Hid (allW (cutN text p (m + 1)) (m + 1) = T) := ⟨_, rfl⟩
    rw [hRR.out, hTT.out]
    obtain ⟨W3, HW3⟩ : ∃ W3, Hid (((w1.alloc (.cells #[.int .u16 (R : Int)] 85)).alloc (.cells #[.int .u16 (T : Int)] 85)).alloc (.cells #[.slice none 0 0] 45) = W3) := ⟨_, rfl⟩
    have HB3 : Hid (Below w1.heap.size w1 W3) := by unfold Hid; rw [← HW3.out]; exact lb_alloc (lb_alloc (lb_alloc (Below.refl _ _) _) _) _
    have r0 : W3.cell? ⟨w1.heap.size, 0, none⟩ = some (.int .u16 (R : Int)) := by rw [← HW3.out]; simp [go_sem]
    have r1 : W3.cell? ⟨w1.heap.size + 1, 0, none⟩ = some (.int .u16 (T : Int)) := by rw [← HW3.out]; simp [go_sem]
    have r2 : W3.cell? ⟨w1.heap.size + 1 + 1, 0, none⟩ = some (.slice none 0 0) := by rw [← HW3.out]; simp [go_sem]
    have r3 : W3.frozen? ⟨w1.heap.size + 1 + 1, 0, none⟩ = false := by rw [← HW3.out]; simp [go_sem]
    have r4 : W3.heap[w1.heap.size + 1 + 1]? = some (.cells #[.slice none 0 0] 45 (0, 0)) := by rw [← HW3.out]; exact new_at (by simp)
    rw [HW3.out]
    clear HW3
    have z0 := lkeep HB3.out y0
    have z1 := lkeep HB3.out y1
    have z2 := lkeep HB3.out y2
    have lk : bk < w1.heap.size := World.block_lt_of_cell? w1 ⟨bk, 0, none⟩ y1
    have lz : bz < w1.heap.size := World.block_lt_of_cell? w1 ⟨bz, 0, none⟩ y2
    have ll : w.heap.size < w1.heap.size := World.block_lt_of_cell? w1 ⟨w.heap.size, 0, none⟩ y0
    clear y0 y1 y2
    have HB4 : Hid (Below w.heap.size w W3) := lb_trans HB2.out HB3.out
    obtain ⟨D, hD⟩ : ∃ D, D = w1.heap.size := ⟨_, rfl⟩
    rw [← hD] at r0 r1 r2 r3 r4 lk lz ll ⊢
    clear hD HB3 HB2
    by_cases h3 : kindN (cutN text p (m + 1)) = 3
    · have CB1 := CB W3 HB4.out
      have HX3 : Hid (TxAt W3 B a1 A2 Ab c1 ml c2 cb ent text) := HXt.out.keep HB4.out
      have t0 := HX3.out.c0
      have t1 := HX3.out.c1
      have t2 := HX3.out.c2
      rw [h3] at z1
      unfold HR at CB1
      clear CB
      go_upto_region 6 with (go_at_call 74; refine CB1.mono ?_; rintro e w4 ⟨Ah, ch, H, rfl, hI4, hBh, hb4⟩; have HI4 : Hid (IntsAt w4 Ah .u16 (setL H text.length)) := hI4; have HBh : Hid (BhI text ent H) := hBh; have HB5 : Hid (Below W3.heap.size W3 w4) := hb4; have s0 := lkeep hb4 r0; have s1 := lkeep hb4 r1; have s2 := lkeep hb4 r2; have s3 : w4.frozen? ⟨D + 1 + 1, 0, none⟩ = false := (by rw [hb4.frozen (p := ⟨D + 1 + 1, 0, none⟩) (World.block_lt_of_cell? W3 ⟨D + 1 + 1, 0, none⟩ r2)]; exact r3); have u0 := lkeep hb4 z0; have u1 := lkeep hb4 z1; have u2 := lkeep hb4 z2; clear hI4 hBh hb4)
      have hpos : 0 < text.length := by omega
      obtain ⟨hs, eh, -⟩ := HI4.out 0 (by rw [setL_len]; exact hpos)
      subst eh
      have n1 : ¬ D + 1 + 1 = bk := by omega
      have n2 : ¬ D + 1 + 1 = bz := by omega
      have n3 : ¬ D + 1 + 1 = w.heap.size := by omega
      have n4 : ¬ D + 1 + 1 = D := by omega
      have n5 : ¬ D + 1 + 1 = D + 1 := by omega
      have HE : Hid (∀ V5 cs ty, V5 = (w4.setCell ⟨D + 1 + 1, 0, none⟩ (.slice (some hs) text.length ch)).alloc (.cells cs ty) → ClsAt V5 bk w.heap.size (D + 1 + 1) bz D (D + 1) text ent H (m + 1) p m (some (a1.add p)) (c1 - p) ∧ Below w.heap.size w V5) := fun V5 cs ty e => by
        subst e
        have k := fun (c : Nat) (u : Value) (hne : ¬ D + 1 + 1 = c) (h : w4.cell? ⟨c, 0, none⟩ = some u) => lkeep (lb_alloc (Below.refl _ _) (.cells cs ty)) (scell_far (i := 0) (v := .slice (some hs) text.length ch) hne h)
        have hB : Below w.heap.size w (w4.setCell ⟨D + 1 + 1, 0, none⟩ (.slice (some hs) text.length ch)) := (lb_trans HB4.out HB5.out).setCell (p := ⟨D + 1 + 1, 0, none⟩) (by show w.heap.size ≤ D + 1 + 1; omega) _
        refine ⟨⟨?_, k _ _ n3 u0, k _ _ n2 u2, ?_, ?_, fun _ => ⟨hs, ch, lkeep (lb_alloc (Below.refl _ _) (.cells cs ty)) (scell_eq s2), ?_, HBh.out⟩⟩, lb_alloc hB _⟩
        · rw [h3]; exact k _ _ n1 u1
        · rw [hRR.out]; exact k _ _ n4 s0
        · rw [hTT.out]; exact k _ _ n5 s1
        · intro i hi
          obtain ⟨x, ex, q⟩ := HI4.out i hi
          have h4 : w4.heap[D + 1 + 1]? = some (.cells #[.slice none 0 0] 45 (0, 0)) := (HB5.out.block _ (World.block_lt_of_cell? W3 ⟨D + 1 + 1, 0, none⟩ r2)).trans r4
          exact ⟨x, ex, lkeep (lb_alloc (Below.refl _ _) (.cells cs ty)) (scell_faq (one_box h4 q) q)⟩
      go_wp2
      go_ret
      exact ⟨_, _, _, _, _, _, _, H, rfl, fun i v hv => wbox_at (new_at (by simp)) (by rw [List.getElem?_toArray]; exact hv), (HE.out _ _ _ rfl).1, (HE.out _ _ _ rfl).2⟩
    · have hne : (kindN (cutN text p (m + 1)) == 3) = false := by simpa using h3
      have HE : Hid (∀ V5 cs ty, V5 = W3.alloc (.cells cs ty) → ClsAt V5 bk w.heap.size (D + 1 + 1) bz D (D + 1) text ent (fun _ => 0) (m + 1) p m (some (a1.add p)) (c1 - p) ∧ Below w.heap.size w V5) := fun V5 cs ty e => by
        subst e
        have k := fun (c : Nat) (u : Value) (h : W3.cell? ⟨c, 0, none⟩ = some u) => lkeep (lb_alloc (Below.refl _ _) (.cells cs ty)) h
        refine ⟨⟨k _ _ z1, k _ _ z0, k _ _ z2, ?_, ?_, fun e => absurd e h3⟩, lb_alloc HB4.out _⟩
        · rw [hRR.out]; exact k _ _ r0
        · rw [hTT.out]; exact k _ _ r1
      clear CB
      generalize kindN (cutN text p (m + 1)) = kd at *
      go_wp2
      go_ret
      exact ⟨_, _, _, _, _, _, _, fun _ => 0, rfl, fun i v hv => wbox_at (new_at (by simp)) (by rw [List.getElem?_toArray]; exact hv), (HE.out _ _ _ rfl).1, (HE.out _ _ _ rfl).2⟩

end Go.Proofs.YtmlhnnmelopleaaGreatDoor
