/-
  The rows of a text.
-/
import Derived.Test.YtokhclindfipbaaProg
import Derived.WalkKit
import Derived.WalkSpells
import Derived.WalkLawsBesides
import Derived.RowKit3
import Derived.Below
import Derived.Deep.QuietTactic
import Derived.BigQuiet
import Derived.WalkSmall
import Derived.Laws.Rows
import Derived.Test.YtokhclindfipbaaPr29
import Derived.Test.YtokhclindfipbaaPr38
import Derived.Test.YtokhclindfipbaaPr41
import Derived.Test.YtokhclindfipbaaPr20
import Derived.Test.YtokhclindfipbaaPr23
import Derived.Test.YtokhclindfipbaaPr43
import Derived.OwnWalk
import Derived.Deep.RegionHeld3
namespace Go.Proofs.Ytokhclindfipbaa
open Go.RowKit

/-- Where the rows lie. -/
structure RwAt (lo B : Nat) (A1 A2 A3 A4 : Option Addr) : Prop where
  b : lo ≤ B
  l1 : ∀ a, A1 = some a → lo ≤ a.block
  l2 : ∀ a, A2 = some a → lo ≤ a.block
  l3 : ∀ a, A3 = some a → lo ≤ a.block
  l4 : ∀ a, A4 = some a → lo ≤ a.block
theorem RwAt.mono {lo lo2 B : Nat} {A1 A2 A3 A4 : Option Addr} (h : RwAt lo B A1 A2 A3 A4) (hl : lo2 ≤ lo) : RwAt lo2 B A1 A2 A3 A4 :=
  ⟨Nat.le_trans hl h.b, fun a e => Nat.le_trans hl (h.l1 a e), fun a e => Nat.le_trans hl (h.l2 a e), fun a e => Nat.le_trans hl (h.l3 a e), fun a e => Nat.le_trans hl (h.l4 a e)⟩
theorem ints_same {W W' : World} {A : Option Addr} {K : IntKind} {l : List Int} {lo : Nat} (h : IntsAt W A K l) (ha : ∀ a, A = some a → lo ≤ a.block) (hs : ∀ b, lo ≤ b → b < W.heap.size → W'.heap[b]? = W.heap[b]?) : IntsAt W' A K l := fun i hi => by
  obtain ⟨a, e, c⟩ := h i hi
  refine ⟨a, e, ?_⟩
  have hb := ha a e
  have hlt := World.block_lt_of_cell? W _ c
  have hbl : (a.add i).block = a.block := by
    unfold Addr.add
    by_cases h0 : i = 0
    · simp [h0]
    · simp [h0]
  rw [hbl] at hlt
  rw [← c]
  unfold World.cell?
  rw [hbl, hs a.block hb hlt]
theorem RwS.same {W W' : World} {B lo : Nat} {A1 A2 A3 A4 : Option Addr} {c1 c2 c3 c4 : Nat} {nm : List Int} {en : Nat → Nat} (h : RwS W B A1 A2 A3 A4 c1 c2 c3 c4 nm en) (hl : RwAt lo B A1 A2 A3 A4) (hs : ∀ b, lo ≤ b → b < W.heap.size → W'.heap[b]? = W.heap[b]?) : RwS W' B A1 A2 A3 A4 c1 c2 c3 c4 nm en := by
  have hB := hs B hl.b (World.block_lt_of_cell? W _ h.f1)
  have hc : ∀ {i : Nat} {v : Value}, W.cell? ⟨B, i, none⟩ = some v → W'.cell? ⟨B, i, none⟩ = some v := fun {i v} e => by
    rw [← e]
    unfold World.cell?
    rw [hB]
  exact ⟨hc h.f1, hc h.f2, hc h.f3, hc h.f4, ints_same h.r1 hl.l1 hs, ints_same h.r2 hl.l2 hs, ints_same h.r3 hl.l3 hs, ints_same h.r4 hl.l4 hs, h.le⟩
theorem own_from {w : World} {b e sz n c k : Nat} {A : Option Addr} {xs : List Value} (h : w.ownsRow b e sz (.slice A n c) k xs) : ∀ a, A = some a → b ≤ a.block := fun a ha => by
  subst ha
  rcases h.2 with ⟨e1, _⟩ | ⟨g, cap, cur, e1, h2, _⟩
  · injection e1 with e1 _ _
    cases e1
  · injection e1 with e1 _ _
    cases e1
    exact h2
/-- What rowsOf answers. -/
def RowOk (text : List Int) (ent : Int) (w : World) (e : Ending) (w' : World) : Prop := ∃ (B : Nat) (A1 A2 A3 A4 : Option Addr) (c1 c2 c3 c4 : Nat), e = .returned (.tuple #[.pointer (some ⟨B, 0, none⟩), .int .i64 0]) ∧ w.heap.size ≤ B ∧ RwS w' B A1 A2 A3 A4 c1 c2 c3 c4 (numL text text.length) (enK (begF text ent) text.length) ∧ RwAt w.heap.size B A1 A2 A3 A4 ∧ Below w.heap.size w w'
def RowNo (E : Int) (w : World) (e : Ending) (w' : World) : Prop := e = .returned (.tuple #[.pointer none, .int .i64 E]) ∧ Below w.heap.size w w'
theorem num_rng (text : List Int) (hl : text.length ≤ 1048576) : ∀ i, i < (numL text text.length).length → -9223372036854775808 ≤ nth (numL text text.length) i ∧ nth (numL text text.length) i ≤ 9223372036854775807 := fun i hi => by
  rw [numL_len] at hi
  rw [numL_nth hi]
  have h1 := fstP_le text i
  have h2 : ∀ k, rnk text k ≤ k := fun k => by
    induction k with
    | zero => exact Nat.le_refl _
    | succ k ih =>
      rw [rnk]
      by_cases c : newP text k = true
      · rw [if_pos c]; omega
      · rw [if_neg c]; omega
  have h3 := h2 (fstP text i)
  unfold numN
  omega
theorem own_le {w : World} {b e sz n c : Nat} {A : Option Addr} {xs : List Value} (h : w.ownsRow b e sz (.slice A n c) n xs) : n ≤ c := by
  rcases h.2 with ⟨e1, _⟩ | ⟨g, cap, cur, e1, _, _, e4, _⟩
  · injection e1 with _ e2 _
    omega
  · injection e1 with _ _ e2
    omega
set_option maxRecDepth 100000 in
set_option maxHeartbeats 4000000 in
theorem rows_no (A1 A2 : Option Addr) (c1 ml c2 : Nat) (ent : Int) (text : List Int) (w : World) (hT : IntsAt w A1 .u32 text) (hR : ∀ i, i < text.length → 0 ≤ nth text i ∧ nth text i < 4294967296) (hl : text.length ≤ 1048576) (hm : ml ≤ 1048576) (hE : (checkI text ml ent).1 ≠ 0) :
    Calls Try.prog 28 #[.agg #[.slice A1 text.length c1, .int .i64 ent, .slice A2 ml c2]] w (RowNo (checkI text ml ent).1 w) := by
  obtain ⟨X, hX⟩ : ∃ X, w.alloc (.cells #[.slice A1 text.length c1, .int .i64 ent, .slice A2 ml c2] 25) = X := ⟨_, rfl⟩
  have HB : Hid (Below w.heap.size w X) := by unfold Hid; rw [← hX]; exact lb_alloc (Below.refl _ _) _
  have i0 : X.cell? ⟨w.heap.size, 0, none⟩ = some (.slice A1 text.length c1) := by rw [← hX]; simp [go_sem]
  have i1 : X.cell? ⟨w.heap.size, 1, none⟩ = some (.int .i64 ent) := by rw [← hX]; simp [go_sem]
  have i2 : X.cell? ⟨w.heap.size, 2, none⟩ = some (.slice A2 ml c2) := by rw [← hX]; simp [go_sem]
  have C := nofOK.no A1 A2 c1 ml c2 ent text X (hT.keep HB.out) hR hl hm hE
  have hne : ((checkI text ml ent).1 != 0) = true := by simpa using hE
  have HX : Hid _ := hX
  clear hT hR hX hE
  generalize (checkI text ml ent).1 = E at *
  go_enter Try.func28, Try.ntmps28
  go_upto_region 1 with fail
  rw [HX.out]
  clear HX
  go_wp2_with (go_at_call 8; refine C.mono ?_; rintro e w1 ⟨A, c, rfl, -, hb1⟩; have HB1 : Hid (Below w.heap.size w w1) := lb_trans HB.out hb1; clear hb1)
  go_ret2
  exact ⟨rfl, HB1.out⟩
set_option maxRecDepth 100000 in
set_option maxHeartbeats 8000000 in
theorem rows_ok (A1 A2 : Option Addr) (c1 ml c2 : Nat) (ent : Int) (text : List Int) (w : World) (hT : IntsAt w A1 .u32 text) (hR : ∀ i, i < text.length → 0 ≤ nth text i ∧ nth text i < 4294967296) (hl : text.length ≤ 2048) (hm : ml ≤ 1048576) (hE : (checkI text ml ent).1 = 0) (h0 : 0 < text.length) :
    Calls Try.prog 28 #[.agg #[.slice A1 text.length c1, .int .i64 ent, .slice A2 ml c2]] w (RowOk text ent w) := by
  obtain ⟨X, hX⟩ : ∃ X, w.alloc (.cells #[.slice A1 text.length c1, .int .i64 ent, .slice A2 ml c2] 25) = X := ⟨_, rfl⟩
  have HB : Hid (Below w.heap.size w X) := by unfold Hid; rw [← hX]; exact lb_alloc (Below.refl _ _) _
  have i0 : X.cell? ⟨w.heap.size, 0, none⟩ = some (.slice A1 text.length c1) := by rw [← hX]; simp [go_sem]
  have i1 : X.cell? ⟨w.heap.size, 1, none⟩ = some (.int .i64 ent) := by rw [← hX]; simp [go_sem]
  have i2 : X.cell? ⟨w.heap.size, 2, none⟩ = some (.slice A2 ml c2) := by rw [← hX]; simp [go_sem]
  have HI : Hid (∀ W, Below X.heap.size X W → W.cell? ⟨w.heap.size, 0, none⟩ = some (.slice A1 text.length c1) ∧ W.cell? ⟨w.heap.size, 1, none⟩ = some (.int .i64 ent) ∧ W.cell? ⟨w.heap.size, 2, none⟩ = some (.slice A2 ml c2)) := fun W hb => ⟨lkeep hb i0, lkeep hb i1, lkeep hb i2⟩
  have HTX : Hid (IntsAt X A1 .u32 text) := hT.keep HB.out
  have HR : Hid _ := hR
  have C1 := nofOK.ok A1 A2 c1 ml c2 ent text X HTX.out hR (by omega) hm hE
  have HC2 : Hid (∀ W, Below X.heap.size X W → Calls Try.prog 9 #[.agg #[.slice A1 text.length c1, .int .i64 ent, .slice A2 ml c2]] W (BlkP 0 (blkN (begF text ent) text.length) W)) := fun W hb => by
    have := blocks_any A1 A2 c1 ml c2 ent text W (HTX.out.keep hb) HR.out (by omega) hm
    rw [show outB text ml ent = blkN (begF text ent) text.length from if_pos hE, hE] at this
    exact this
  have HN : Hid _ := num_rng text (by omega)
  have HNl : Hid ((numL text text.length).length = text.length) := numL_len _ _
  have HX : Hid _ := hX
  have HB0 : Hid (begF text ent 0 = true) := beg_zero text ent
  clear hT hR hX hE
  go_enter Try.func28, Try.ntmps28
  go_upto_region 1 with fail
  rw [HX.out]
  clear HX
  go_upto_region 4 with (go_at_call 8; refine C1.mono ?_; rintro e w1 ⟨An, cn, rfl, hn1, hb1⟩; have HB1 : Hid (Below X.heap.size X w1) := hb1; have HN1 : Hid _ := hn1; clear hb1 hn1)
  obtain ⟨i0, i1, i2⟩ := HI.out w1 HB1.out
  have C2 := HC2.out w1 HB1.out
  have hlt0 : text.length ≤ 2048 := hl
  go_upto_region 7 with (go_at_call 9; refine C2.mono ?_; rintro e w2 ⟨Ab, cb, rfl, hn2, hb2⟩; have HB2 : Hid (Below w1.heap.size w1 w2) := hb2; have HR2 : Hid _ := hn2; clear hb2 hn2)
  have HBX2 : Hid (Below w.heap.size w w2) := lb_trans (lb_trans HB.out HB1.out) HB2.out
  have HN2 : Hid (IntsAt w2 An .i64 (numL text text.length)) := (row_ints (c := cn) (n := text.length) (by rw [HNl.out]; exact HN1.out)).keep HB2.out
  have HRl : Hid (RelsAt w2 Ab (blkN (begF text ent) text.length)) := drow_rels HR2.out
  clear i0 i1 i2 HI HC2 C1 C2 HTX HR HN1 HR2 HB HB1 HB2
  obtain ⟨nm, hnm⟩ : ∃ nm, nm = numL text text.length := ⟨_, rfl⟩
  have HNM : Hid (nm = numL text text.length) := hnm
  rw [← hnm] at HN HNl HN2
  clear hnm
  rw [← HNl.out] at hl hlt0 h0 HRl ⊢
  have HHl : Hid (nm.length ≤ 2048) := hl
  have CS := ofOK.ok An cn nm w2 HN2.out HN.out hl
  go_upto_region 8 with (go_at_call 40; refine CS.mono ?_; rintro e w3 ⟨S1, S2, k1, k2, rfl, hs1, hs2, -, hb3⟩; have HB3 : Hid (Below w2.heap.size w2 w3) := hb3; have HS1 : Hid _ := hs1; have HS2 : Hid _ := hs2; clear hs1 hs2 hb3)
  obtain ⟨co, hco⟩ : ∃ co, co = cstI nm := ⟨_, rfl⟩
  rw [← hco]
  obtain ⟨Y, hY⟩ : ∃ Y, w3.alloc (.cells #[.slice S1 nm.length k1, .slice S2 nm.length k2, .int .i64 co] 96) = Y := ⟨_, rfl⟩
  have HBY3 : Hid (Below w3.heap.size w3 Y) := by unfold Hid; rw [← hY]; exact lb_alloc (Below.refl _ _) _
  have y0 : Y.cell? ⟨w3.heap.size, 0, none⟩ = some (.slice S1 nm.length k1) := by rw [← hY]; simp [go_sem]
  have y1 : Y.cell? ⟨w3.heap.size, 1, none⟩ = some (.slice S2 nm.length k2) := by rw [← hY]; simp [go_sem]
  have HY : Hid _ := hY
  have HBY : Hid (Below w2.heap.size w2 Y) := lb_trans HB3.out HBY3.out
  have HI1 : Hid (IntsAt Y S1 .i64 (sufL nm)) := (row_ints (c := k1) (n := nm.length) (by rw [sufL_len]; exact HS1.out)).keep HBY3.out
  have HI2 : Hid (IntsAt Y S2 .i64 (rkL nm)) := (row_ints (c := k2) (n := nm.length) (by rw [rkL_len]; exact HS2.out)).keep HBY3.out
  have HK1 : Hid (nm.length ≤ k1) := own_le HS1.out
  have HF : Hid (∀ W, Below Y.heap.size Y W → W.cell? ⟨w3.heap.size, 0, none⟩ = some (.slice S1 nm.length k1) ∧ W.cell? ⟨w3.heap.size, 1, none⟩ = some (.slice S2 nm.length k2)) := fun W hb => ⟨lkeep hb y0, lkeep hb y1⟩
  have CP := prefixesOK.ok An S1 cn k1 nm Y (HN2.out.keep HBY.out) HN.out hl HI1.out
  have HL1 : Hid (∀ a, S1 = some a → w2.heap.size ≤ a.block) := own_from HS1.out
  have HL2 : Hid (∀ a, S2 = some a → w2.heap.size ≤ a.block) := own_from HS2.out
  have HW2 : Hid (w.heap.size ≤ w2.heap.size) := HBX2.out.size
  clear hY hco CS HS1 HS2
  rw [HY.out]
  clear HY
  go_upto_region 11 with (go_at_call 41; refine CP.mono ?_; rintro e w4 ⟨P, kp, rfl, hp4, hb4⟩; have HB4 : Hid (Below Y.heap.size Y w4) := hb4; have HP4 : Hid _ := hp4; clear hp4 hb4)
  obtain ⟨z0, z1⟩ := HF.out w4 HB4.out
  have HF4 : Hid (∀ W, Below w4.heap.size w4 W → W.cell? ⟨w3.heap.size, 0, none⟩ = some (.slice S1 nm.length k1) ∧ W.cell? ⟨w3.heap.size, 1, none⟩ = some (.slice S2 nm.length k2)) := fun W hb => HF.out W (lb_trans HB4.out hb)
  have HB4w : Hid (Below w.heap.size w w4) := lb_trans HBX2.out (lb_trans HBY.out HB4.out)
  have HJ1 : Hid (IntsAt w4 S1 .i64 (sufL nm)) := HI1.out.keep HB4.out
  have HJ2 : Hid (IntsAt w4 S2 .i64 (rkL nm)) := HI2.out.keep HB4.out
  have HJ3 : Hid (IntsAt w4 P .i64 (cpA nm)) := row_ints (c := kp) (n := nm.length) (by rw [cpA_len]; exact HP4.out)
  have HR4 : Hid (RelsAt w4 Ab (blkN (begF text ent) nm.length)) := HRl.out.keep (lb_trans HBY.out HB4.out)
  have HCE : Hid (∀ W, Below w4.heap.size w4 W → Calls Try.prog 42 #[.slice Ab (blkN (begF text ent) nm.length).length cb] W (EndP nm.length (enP (begF text ent) nm.length nm.length) W)) := fun W hb => ends_any Ab cb (begF text ent) nm.length W (HR4.out.keep hb) HB0.out h0 (by have := HHl.out; omega)
  have HL3 : Hid (∀ a, P = some a → Y.heap.size ≤ a.block) := own_from HP4.out
  have HWY : Hid (w.heap.size ≤ Y.heap.size) := Nat.le_trans HW2.out HBY.out.size
  clear CP HI1 HI2 HP4 HR4 HF y0 y1 HN HN2 HRl HBX2 HBY3 HBY HB3 HB4
  have B4 : Below w4.heap.size w4 w4.drew := (Below.refl _ _).drew
  go_wp2_with fail
  go_region_held3 (fun W => Below w4.heap.size w4 W ∧ W.cell? ⟨w3.heap.size, 0, none⟩ = some (.slice S1 nm.length k1) ∧ W.cell? ⟨w3.heap.size, 1, none⟩ = some (.slice S2 nm.length k2)) (first | exact ⟨Below.refl _ _, z0, z1⟩ | exact ⟨lb_trans B4 hb5, HF4.out _ (lb_trans B4 hb5)⟩ | exact ⟨B4, HF4.out _ B4⟩ | exact ⟨lb_alloc (lb_trans B4 hb5) _, HF4.out _ (lb_alloc (lb_trans B4 hb5) _)⟩) (first | (go_at_call 42; refine (HCE.out _ B4).mono ?_; rintro e w5 ⟨E, ke, rfl, hi5, hf5, hb5⟩; have HF5 : Hid (∀ a, E = some a → w4.heap.size ≤ a.block) := hf5; clear hf5; have HI5 : Hid (IntsAt w5 E .i64 (enP (begF text ent) nm.length nm.length)) := hi5; clear hi5))
  have HB5 : Hid (Below w4.heap.size w4 w5) := lb_trans B4 hb5
  clear hb5 B4 HCE HF4 z0 z1 HB0
  go_wp2
  go_ret2
  have HB6 : Below w4.heap.size w4 (w5.alloc (.cells #[.slice S1 nm.length k1, .slice S2 nm.length k2, .slice P nm.length kp, .slice E nm.length ke] 85)) := lb_alloc HB5.out _
  have hB56 : Below w5.heap.size w5 (w5.alloc (.cells #[.slice S1 nm.length k1, .slice S2 nm.length k2, .slice P nm.length kp, .slice E nm.length ke] 85)) := lb_alloc (Below.refl _ _) _
  refine ⟨w5.heap.size, S1, S2, P, E, k1, k2, kp, ke, rfl, Nat.le_trans HB4w.out.size HB5.out.size, ?_, ⟨Nat.le_trans HB4w.out.size HB5.out.size, fun a e => Nat.le_trans HW2.out (HL1.out a e), fun a e => Nat.le_trans HW2.out (HL2.out a e), fun a e => Nat.le_trans HWY.out (HL3.out a e), fun a e => Nat.le_trans HB4w.out.size (HF5.out a e)⟩, lb_trans HB4w.out HB6⟩
  rw [← HNM.out, ← HNl.out]
  exact ⟨by simp [go_sem], by simp [go_sem], by simp [go_sem], by simp [go_sem], HJ1.out.keep HB6, HJ2.out.keep HB6, HJ3.out.keep HB6, HI5.out.keep hB56, HK1.out⟩

end Go.Proofs.Ytokhclindfipbaa
