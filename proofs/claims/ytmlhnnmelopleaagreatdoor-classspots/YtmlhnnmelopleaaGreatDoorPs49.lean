/-
  The document's See.
-/
import Derived.Test.YtmlhnnmelopleaaGreatDoorProg
import Derived.WalkKit
import Derived.WalkSpells
import Derived.WalkLawsBesides
import Derived.RowKit3
import Derived.Below
import Derived.Deep.QuietTactic
import Derived.BigQuiet
import Derived.WalkSmall
import Derived.Laws.Rows
import Derived.Test.YtmlhnnmelopleaaGreatDoorPs48
import Derived.Test.YtmlhnnmelopleaaGreatDoorPs46
import Derived.Test.YtmlhnnmelopleaaGreatDoorPs47
import Derived.Test.YtmlhnnmelopleaaGreatDoorPs36
namespace Go.Proofs.YtmlhnnmelopleaaGreatDoor
open Go.RowKit

/-- What is asked of an image again and again. -/
structure LkAt (w : World) (a1 : Addr) (Ab : Option Addr) (ah : Addr) (ent : Int) (text : List Int) (H : Int → Nat) : Prop where
  txt : IntsAt w (some a1) .u32 text
  blk : RelsAt w Ab (blkL text ent)
  beh : IntsAt w (some ah) .u16 (setL H text.length)
  bhi : BhI text ent H
theorem LkAt.keep {w w' : World} {a1 : Addr} {Ab : Option Addr} {ah : Addr} {ent : Int} {text : List Int} {H : Int → Nat} (h : LkAt w a1 Ab ah ent text H) (hb : Below w.heap.size w w') : LkAt w' a1 Ab ah ent text H := ⟨h.txt.keep hb, h.blk.keep hb, h.beh.keep hb, h.bhi⟩
def SeeP (a1 : Addr) (A2 : Option Addr) (c1 ml c2 : Nat) (ent : Int) (text : List Int) (w : World) (e : Ending) (w' : World) : Prop := ∃ (Ab : Option Addr) (cb : Nat) (ah : Addr) (H : Int → Nat), e = .returned (.agg #[.slice (some a1) text.length c1, .int .i64 ent, .slice A2 ml c2, .slice Ab (blkL text ent).length cb, .slice (some ah) text.length text.length]) ∧ LkAt w' a1 Ab ah ent text H ∧ Below w.heap.size w w'
theorem five_box {w : World} {B : Nat} {t : TypeId} (h : w.heap[B]? = some (.cells #[.slice none 0 0, .int .i64 0, .slice none 0 0, .slice none 0 0, .slice none 0 0] t (0, 0))) {a : Addr} {K K' : IntKind} {x y : Int} (h0 : w.cell? a = some (.int K x)) (h1 : w.cell? (a.add 1) = some (.int K' y)) : ¬ B = a.block := by
  intro e
  obtain ⟨qb, qo, qp⟩ := a
  have e : B = qb := e
  subst e
  cases qp with
  | some _ => simp [World.cell?, h] at h0
  | none =>
    simp [World.cell?, h] at h0
    simp [World.cell?, h, Addr.add] at h1
    match qo with
    | 0 => simp at h0
    | 1 => simp at h1
    | 2 => simp at h0
    | 3 => simp at h0
    | 4 => simp at h0
    | k + 5 => simp at h0
theorem add_block (a : Addr) (n : Nat) : (a.add n).block = a.block := by
  unfold Addr.add
  split <;> rfl
theorem rels_faq {w : World} {B i : Nat} {v : Value} {A : Option Addr} {l : List Rel} (h : RelsAt w A l) (hne : ∀ a, A = some a → 0 < l.length → ¬ B = a.block) : RelsAt (w.setCell ⟨B, i, none⟩ v) A l := fun k hk => by
  obtain ⟨a, ea, q1, q2⟩ := h k hk
  have hb := hne a ea (by omega)
  exact ⟨a, ea, scell_faq (by rw [add_block]; exact hb) q1, scell_faq (by rw [add_block, add_block]; exact hb) q2⟩
theorem set5 {w W : World} {a b c d e : Value} (h : Below w.heap.size w W) : Below w.heap.size w (((((W.setCell ⟨w.heap.size + 1, 0, none⟩ a).setCell ⟨w.heap.size + 1, 1, none⟩ b).setCell ⟨w.heap.size + 1, 2, none⟩ c).setCell ⟨w.heap.size + 1, 3, none⟩ d).setCell ⟨w.heap.size + 1, 4, none⟩ e) :=
  ((((h.setCell (p := ⟨w.heap.size + 1, 0, none⟩) (Nat.le_succ _) _).setCell (p := ⟨w.heap.size + 1, 1, none⟩) (Nat.le_succ _) _).setCell (p := ⟨w.heap.size + 1, 2, none⟩) (Nat.le_succ _) _).setCell (p := ⟨w.heap.size + 1, 3, none⟩) (Nat.le_succ _) _).setCell (p := ⟨w.heap.size + 1, 4, none⟩) (Nat.le_succ _) _
theorem set5q {n : Nat} {W : World} {a b c d e u : Value} {q : Addr} (hn : ¬ n = q.block) (h : W.cell? q = some u) : (((((W.setCell ⟨n, 0, none⟩ a).setCell ⟨n, 1, none⟩ b).setCell ⟨n, 2, none⟩ c).setCell ⟨n, 3, none⟩ d).setCell ⟨n, 4, none⟩ e).cell? q = some u :=
  scell_faq hn (scell_faq hn (scell_faq hn (scell_faq hn (scell_faq hn h))))
theorem set5c {n i : Nat} {W : World} {a b c d e u : Value} (h : W.cell? ⟨n, i, none⟩ = some u) : (((((W.setCell ⟨n + 1, 0, none⟩ a).setCell ⟨n + 1, 1, none⟩ b).setCell ⟨n + 1, 2, none⟩ c).setCell ⟨n + 1, 3, none⟩ d).setCell ⟨n + 1, 4, none⟩ e).cell? ⟨n, i, none⟩ = some u :=
  set5q (by show ¬ n + 1 = n; omega) h
theorem s_call {w W W' : World} {p q r : Addr} {a b c : Value} (h : Below w.heap.size w W ∧ W.cell? p = some a ∧ W.cell? q = some b ∧ W.cell? r = some c) (hb : Below W.heap.size W W') : Below w.heap.size w W' ∧ W'.cell? p = some a ∧ W'.cell? q = some b ∧ W'.cell? r = some c := ⟨lb_trans h.1 hb, lkeep hb h.2.1, lkeep hb h.2.2.1, lkeep hb h.2.2.2⟩
theorem s_set5 {w W : World} {a b c d e x y z : Value} (h : Below w.heap.size w W ∧ W.cell? ⟨w.heap.size, 0, none⟩ = some x ∧ W.cell? ⟨w.heap.size, 1, none⟩ = some y ∧ W.cell? ⟨w.heap.size, 2, none⟩ = some z) : Below w.heap.size w (((((W.setCell ⟨w.heap.size + 1, 0, none⟩ a).setCell ⟨w.heap.size + 1, 1, none⟩ b).setCell ⟨w.heap.size + 1, 2, none⟩ c).setCell ⟨w.heap.size + 1, 3, none⟩ d).setCell ⟨w.heap.size + 1, 4, none⟩ e) ∧ (((((W.setCell ⟨w.heap.size + 1, 0, none⟩ a).setCell ⟨w.heap.size + 1, 1, none⟩ b).setCell ⟨w.heap.size + 1, 2, none⟩ c).setCell ⟨w.heap.size + 1, 3, none⟩ d).setCell ⟨w.heap.size + 1, 4, none⟩ e).cell? ⟨w.heap.size, 0, none⟩ = some x ∧ (((((W.setCell ⟨w.heap.size + 1, 0, none⟩ a).setCell ⟨w.heap.size + 1, 1, none⟩ b).setCell ⟨w.heap.size + 1, 2, none⟩ c).setCell ⟨w.heap.size + 1, 3, none⟩ d).setCell ⟨w.heap.size + 1, 4, none⟩ e).cell? ⟨w.heap.size, 1, none⟩ = some y ∧ (((((W.setCell ⟨w.heap.size + 1, 0, none⟩ a).setCell ⟨w.heap.size + 1, 1, none⟩ b).setCell ⟨w.heap.size + 1, 2, none⟩ c).setCell ⟨w.heap.size + 1, 3, none⟩ d).setCell ⟨w.heap.size + 1, 4, none⟩ e).cell? ⟨w.heap.size, 2, none⟩ = some z := ⟨set5 h.1, set5c h.2.1, set5c h.2.2.1, set5c h.2.2.2⟩
set_option maxRecDepth 100000 in
set_option maxHeartbeats 8000000 in
theorem see_any (a1 : Addr) (A2 : Option Addr) (c1 ml c2 : Nat) (ent : Int) (text : List Int) (w : World) (hT : IntsAt w (some a1) .u32 text) (hR : ∀ i, i < text.length → 0 ≤ nth text i ∧ nth text i < 4294967296) (hM : MayI text ml ent) (hc : text.length ≤ c1) :
    Calls Tryz.prog 16 #[.agg #[.slice (some a1) text.length c1, .int .i64 ent, .slice A2 ml c2]] w (SeeP a1 A2 c1 ml c2 ent text w) := by
  obtain ⟨X, HX⟩ : ∃ X, Hid ((w.alloc (.cells #[.slice (some a1) text.length c1, .int .i64 ent, .slice A2 ml c2] 31)).alloc (.cells #[.slice none 0 0, .int .i64 0, .slice none 0 0, .slice none 0 0, .slice none 0 0] 47) = X) := ⟨_, rfl⟩
  have HB : Hid (Below w.heap.size w X) := by unfold Hid; rw [← HX.out]; exact lb_alloc (lb_alloc (Below.refl _ _) _) _
  have i0 : X.cell? ⟨w.heap.size, 0, none⟩ = some (.slice (some a1) text.length c1) := by rw [← HX.out]; simp [go_sem]
  have i1 : X.cell? ⟨w.heap.size, 1, none⟩ = some (.int .i64 ent) := by rw [← HX.out]; simp [go_sem]
  have i2 : X.cell? ⟨w.heap.size, 2, none⟩ = some (.slice A2 ml c2) := by rw [← HX.out]; simp [go_sem]
  have hbx : X.heap[w.heap.size + 1]? = some (.cells #[.slice none 0 0, .int .i64 0, .slice none 0 0, .slice none 0 0, .slice none 0 0] 47 (0, 0)) := by rw [← HX.out]; exact new_at (by simp)
  have y0 : X.cell? ⟨w.heap.size + 1, 0, none⟩ = some (.slice none 0 0) := wbox_at hbx rfl
  have y1 : X.cell? ⟨w.heap.size + 1, 1, none⟩ = some (.int .i64 0) := wbox_at hbx rfl
  have y2 : X.cell? ⟨w.heap.size + 1, 2, none⟩ = some (.slice none 0 0) := wbox_at hbx rfl
  have y3 : X.cell? ⟨w.heap.size + 1, 3, none⟩ = some (.slice none 0 0) := wbox_at hbx rfl
  have y4 : X.cell? ⟨w.heap.size + 1, 4, none⟩ = some (.slice none 0 0) := wbox_at hbx rfl
  have yf : ∀ i, X.frozen? ⟨w.heap.size + 1, i, none⟩ = false := fun i => box_fro hbx i
  have yf0 := yf 0
  have yf1 := yf 1
  have yf2 := yf 2
  have yf3 := yf 3
  have yf4 := yf 4
  clear yf
  have hxs : w.heap.size + 1 < X.heap.size := by rw [← HX.out]; simp
  have C1 := fun wx (hb : Below w.heap.size w wx) => refblocks_any (some a1) A2 c1 ml c2 ent text wx (hT.keep hb) hR hM
  have C2 := fun wx (hb : Below w.heap.size w wx) => refbehind_any (some a1) A2 c1 ml c2 ent text wx (hT.keep hb) hR hM hc
  have HT : Hid (IntsAt w (some a1) .u32 text) := hT
  have HP : Hid (0 < text.length) := hM.past.pos
  clear hT hR hM
  go_enter Tryz.func16, Tryz.ntmps16
  go_upto_region 1 with fail
  rw [HX.out]
  clear HX
  have BXd : Below X.heap.size X X.drew := (Below.refl _ _).drew
  have hB0 := HB.out
  go_region_held3 (fun W => Below w.heap.size w W ∧ W.cell? ⟨w.heap.size, 0, none⟩ = some (.slice (some a1) text.length c1) ∧ W.cell? ⟨w.heap.size, 1, none⟩ = some (.int .i64 ent) ∧ W.cell? ⟨w.heap.size, 2, none⟩ = some (.slice A2 ml c2)) (with_reducible (first | exact s_set5 ‹Below _ _ _ ∧ _› | exact s_call ‹Below _ _ _ ∧ _› hb | exact ⟨lb_trans hB0 BXd, lkeep BXd i0, lkeep BXd i1, lkeep BXd i2⟩)) (first | (go_at_call 37; refine (C1 _ (lb_trans hB0 BXd)).mono ?_; rintro e w1 ⟨Ab, cb, rfl, hrl, hb⟩; have HRl : Hid (RelsAt w1 Ab (blkL text ent)) := hrl; have p0 := lkeep hb (lkeep BXd y0); have pf0 := fro_keep hb (lkeep BXd y0) (fro_keep BXd y0 yf0); have p1 := lkeep hb (lkeep BXd y1); have pf1 := fro_keep hb (lkeep BXd y1) (fro_keep BXd y1 yf1); have p2 := lkeep hb (lkeep BXd y2); have pf2 := fro_keep hb (lkeep BXd y2) (fro_keep BXd y2 yf2); have p3 := lkeep hb (lkeep BXd y3); have pf3 := fro_keep hb (lkeep BXd y3) (fro_keep BXd y3 yf3); have p4 := lkeep hb (lkeep BXd y4); have pf4 := fro_keep hb (lkeep BXd y4) (fro_keep BXd y4 yf4); have hq : w1.heap[w.heap.size + 1]? = some (.cells #[.slice none 0 0, .int .i64 0, .slice none 0 0, .slice none 0 0, .slice none 0 0] 47 (0, 0)) := lb_box (lb_box hbx BXd) hb; clear hrl) | (go_at_call 38; refine (C2 _ (‹Below _ _ _ ∧ _›).1).mono ?_; rintro e w2 ⟨gH, H, rfl, hus, hbh, hb⟩; have HUs : Hid (UsAt w2 gH text.length H) := hus; have HBh : Hid (BhI text ent H) := hbh; have HR2 : Hid (RelsAt w2 Ab (blkL text ent)) := HRl.out.keep hb; have hq2 := lb_box hq hb; have m0 := lkeep hb p0; have mf0 := fro_keep hb p0 pf0; have m1 := lkeep hb p1; have mf1 := fro_keep hb p1 pf1; have m2 := lkeep hb p2; have mf2 := fro_keep hb p2 pf2; have m3 := lkeep hb p3; have mf3 := fro_keep hb p3 pf3; have m4 := lkeep hb p4; have mf4 := fro_keep hb p4 pf4; clear hus hbh))
  rename_i hS
  have sB : Hid _ := hS.1
  clear hS BXd hB0 i0 i1 i2 hxs C1 C2
  have HF : Hid (∀ (L : Nat), L = (blkL text ent).length → ∀ (x0 x1 x2 : Value) (V : World), V = (((((w2.setCell ⟨w.heap.size + 1, 0, none⟩ x0).setCell ⟨w.heap.size + 1, 1, none⟩ x1).setCell ⟨w.heap.size + 1, 2, none⟩ x2).setCell ⟨w.heap.size + 1, 3, none⟩ (.slice Ab L cb)).setCell ⟨w.heap.size + 1, 4, none⟩ (.slice (some ⟨gH, 0, none⟩) text.length text.length)) → Below w.heap.size w V → SeeP a1 A2 c1 ml c2 ent text w (.returned (.agg #[.slice (some a1) text.length c1, .int .i64 ent, .slice A2 ml c2, .slice Ab L cb, .slice (some ⟨gH, 0, none⟩) text.length text.length])) V) := fun L eL x0 x1 x2 V e hb => by
    subst e
    subst eL
    have hne : ∀ a, Ab = some a → 0 < (blkL text ent).length → ¬ w.heap.size + 1 = a.block := fun a ea h0 => by
      obtain ⟨b, eb, q1, q2⟩ := HR2.out 0 h0
      rw [ea] at eb
      obtain rfl := Option.some.inj eb
      have := five_box hq2 q1 q2
      rwa [add_block] at this
    have hg : gH ≠ w.heap.size + 1 := fun e => by
      obtain ⟨cs, h1, _⟩ := HUs.out
      rw [e, hq2] at h1
      simp at h1
    exact ⟨Ab, cb, ⟨gH, 0, none⟩, H, rfl, ⟨HT.out.keep hb, rels_faq (rels_faq (rels_faq (rels_faq (rels_faq HR2.out hne) hne) hne) hne) hne, (((((HUs.out.other hg).other hg).other hg).other hg).other hg).ints, HBh.out⟩, hb⟩
  go_wp2
  refine bodyPost_ret (v := .agg #[.slice (some a1) text.length c1, .int .i64 ent, .slice A2 ml c2, .slice Ab (blkL text ent).length cb, .slice (some ⟨gH, 0, none⟩) text.length text.length]) (by simp [results, Tryz.results16, go_sem, m0, m1, m2, m3, m4]) rfl (HF.out _ rfl _ _ _ _ rfl sB.out)

end Go.Proofs.YtmlhnnmelopleaaGreatDoor
