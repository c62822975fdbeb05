/-
  The document takes a number that is at most so many; the bytes are at most 2^20. The document takes a text; the bytes are at most 2^20. A taker, a box and two rows of their own, while a document's reading goes on; no Go in sight. The document reads symbols and relocations; the bytes are at most 2^19.
-/
import Derived.Test.YthfcimmfkibmjaaGreatDoorProg
import Derived.WalkKit
import Derived.WalkSpells
import Derived.WalkLawsBesides
import Derived.RowKit3
import Derived.Below
import Derived.Deep.QuietTactic
import Derived.BigQuiet
import Derived.WalkSmall
import Derived.Test.YthfcimmfkibmjaaGreatDoorWd24
import Derived.Laws.BytesArg
import Derived.Laws.Rows
import Derived.Test.YthfcimmfkibmjaaGreatDoorWd01
import Derived.Test.YthfcimmfkibmjaaGreatDoorWd05
import Derived.Test.YthfcimmfkibmjaaGreatDoorWd02
import Derived.Test.YthfcimmfkibmjaaGreatDoorWd17
import Derived.Test.YthfcimmfkibmjaaGreatDoorWd20
import Derived.Test.YthfcimmfkibmjaaGreatDoorWd21
import Derived.Test.YthfcimmfkibmjaaGreatDoorWd23
import Derived.Test.YthfcimmfkibmjaaGreatDoorWd19
import Derived.Test.YthfcimmfkibmjaaGreatDoorWd13
import Derived.Test.YthfcimmfkibmjaaGreatDoorWd06
namespace Go.Proofs.YthfcimmfkibmjaaGreatDoor
open Go.RowKit

theorem wrap64N {x : Int} (h : 0 ≤ x ∧ x < 9223372036854775808) : IntKind.i64.wrap x = x := by
  simp [IntKind.wrap, IntKind.signed, IntKind.bits]
  omega
set_option maxRecDepth 100000 in
set_option maxHeartbeats 1000000 in
theorem tcount_any (g : Nat) (A : Option Addr) (c : Nat) (b : List Int) (t : Tk) (w0 w : World) (hB : IntsAt w0 A .u8 b) (hb0 : Below w0.heap.size w0 w) (hg0 : w0.heap.size ≤ g) (hA : AreB b) (hN : b.length ≤ 1048576) (hp : t.pos ≤ 1048600) (ht : TkAt w g A b.length c t) (most : Int) (_hm0 : 0 ≤ most) : Calls Tryz.prog 63 #[.pointer (some ⟨g, 0, none⟩), .int .i64 most] w fun r w' => r = .returned (.int .i64 (tCount b most t).1) ∧ But g w w' ∧ TkAt w' g A b.length c (tCount b most t).2 := by
  have CF := tfour_any g A c b t w0 w hB hb0 hg0 hA hN hp ht
  have c1 := ht.1.2.1
  have HC : Hid (tCount b most t = if (tFour b t).2.bad = 0 then (if most < (tFour b t).1 then (0, ⟨t.pos + 4, 27, t.pos⟩) else tFour b t) else (0, (tFour b t).2)) := rfl
  have HP : Hid ((tFour b t).2.bad = 0 → (tFour b t).2.pos = t.pos + 4 ∧ 0 ≤ (tFour b t).1 ∧ (tFour b t).1 < 4294967296) := fun h => by
    obtain ⟨a, b1, b2⟩ := tFour_ok hA h
    exact ⟨a.2.1, b1, b2⟩
  generalize tFour b t = R at CF HC HP
  obtain ⟨x, t2⟩ := R
  simp only at CF HC HP
  clear ht
  by_cases hz : t2.bad = 0
  · obtain ⟨q1, q2, q3⟩ := HP.out hz
    have hwr : IntKind.i64.wrap x = x := wrap64N (by omega)
    have hz' : (t2.bad == 0) = true := by simpa using hz
    have hz2 : (t2.bad != 0) = false := by simpa using hz
    by_cases hm : most < x
    · have HC2 : Hid (tCount b most t = (0, ⟨t.pos + 4, 27, t.pos⟩)) := by rw [Hid, HC.out, if_pos hz, if_pos hm]
      have HW : Hid (tWrong t2 27 t.pos = ⟨t.pos + 4, 27, t.pos⟩) := by unfold Hid tWrong; rw [if_pos hz, q1]
      have CW := fun wx (h : TkAt wx g A b.length c t2) => wrong_any g A b.length c t2 27 t.pos wx h
      clear HC HP hz
      go_enter Tryz.func63, Tryz.ntmps63
      go_wp2_with fail
      refine CF.mono ?_
      rintro r w1 ⟨rfl, hb1, ht1⟩
      have HB1 : Hid (But g w w1) := hb1
      have HT1 : Hid (TkAt w1 g A b.length c t2) := ht1
      obtain ⟨⟨d0, d1, d2, d3⟩, _⟩ := ht1
      clear hb1 CF
      go_wp2_with fail
      refine (CW _ HT1.out).mono ?_
      rintro r w2 ⟨rfl, hb2, ht2⟩
      rw [HW.out] at ht2
      have HB2 : Hid (But g w w2) := HB1.out.trans hb2
      have HT2 : Hid (TkAt w2 g A b.length c ⟨t.pos + 4, 27, t.pos⟩) := ht2
      obtain ⟨⟨e0, e1, e2, e3⟩, _⟩ := ht2
      clear hb2 CW
      go_wp2
      go_ret
      exact ⟨by rw [HC2.out]; rfl, HB2.out, by rw [HC2.out]; exact HT2.out⟩
    · have HC2 : Hid (tCount b most t = (x, t2)) := by rw [Hid, HC.out, if_pos hz, if_neg hm]
      clear HC HP hz
      go_enter Tryz.func63, Tryz.ntmps63
      go_wp2_with fail
      refine CF.mono ?_
      rintro r w1 ⟨rfl, hb1, ht1⟩
      have HB1 : Hid (But g w w1) := hb1
      have HT1 : Hid (TkAt w1 g A b.length c t2) := ht1
      obtain ⟨⟨d0, d1, d2, d3⟩, _⟩ := ht1
      clear hb1 CF
      go_wp2
      go_ret
      exact ⟨by rw [HC2.out]; rfl, HB1.out, by rw [HC2.out]; exact HT1.out⟩
  · have HC2 : Hid (tCount b most t = (0, t2)) := by rw [Hid, HC.out, if_neg hz]
    have hz' : (t2.bad == 0) = false := by simpa using hz
    have hz2 : (t2.bad != 0) = true := by simpa using hz
    clear HC HP hz
    go_enter Tryz.func63, Tryz.ntmps63
    go_wp2_with fail
    refine CF.mono ?_
    rintro r w1 ⟨rfl, hb1, ht1⟩
    have HB1 : Hid (But g w w1) := hb1
    have HT1 : Hid (TkAt w1 g A b.length c t2) := ht1
    obtain ⟨⟨d0, d1, d2, d3⟩, _⟩ := ht1
    clear hb1 CF
    go_wp2
    go_ret
    exact ⟨by rw [HC2.out]; rfl, HB1.out, by rw [HC2.out]; exact HT1.out⟩


end Go.Proofs.YthfcimmfkibmjaaGreatDoor

namespace Go.Proofs.YthfcimmfkibmjaaGreatDoor
open Go.RowKit

theorem spot_none {w : World} {a : Addr} {v : Value} (h : w.cell? (a.add 0) = some v) : a = ⟨a.block, a.off, none⟩ := by
  cases a with
  | mk bl o sp =>
    cases sp with
    | none => rfl
    | some k =>
      exfalso
      simp [Addr.add, World.cell?] at h
      split at h <;> cases h
theorem addn (bl o i : Nat) : (⟨bl, o, none⟩ : Addr).add i = ⟨bl, o + i, none⟩ := by
  unfold Addr.add
  split
  · next h => subst h; rfl
  · rfl
set_option maxRecDepth 100000 in
set_option maxHeartbeats 1000000 in
theorem tname_any (g : Nat) (A : Option Addr) (c : Nat) (b : List Int) (t : Tk) (w0 w : World) (hB : IntsAt w0 A .u8 b) (hb0 : Below w0.heap.size w0 w) (hg0 : w0.heap.size ≤ g) (hA : AreB b) (hN : b.length ≤ 1048576) (hp : t.pos ≤ 1048600) (ht : TkAt w g A b.length c t) (hcap : b.length ≤ c) (hp2 : t.pos ≤ 1048500) : Calls Tryz.prog 62 #[.pointer (some ⟨g, 0, none⟩)] w fun r w' => r = .returned (.string (tName b t).1) ∧ But g w w' ∧ TkAt w' g A b.length c (tName b t).2 := by
  have CC := tcount_any g A c b t w0 w hB hb0 hg0 hA hN hp ht 24 (by omega)
  have hP : (tCount b 24 t).2.pos ≤ 1048600 := by
    have h4 : (tFour b t).2.pos ≤ t.pos + 4 := by
      unfold tFour
      split
      · exact Nat.le_refl _
      · unfold tHas; split <;> simp only <;> omega
    unfold tCount
    split
    · split
      · simp only; omega
      · omega
    · simp only; omega
  have hQ : 0 ≤ (tCount b 24 t).1 ∧ (tCount b 24 t).1 ≤ 24 := by
    by_cases hz : (tCount b 24 t).2.bad = 0
    · obtain ⟨_, q1, q2⟩ := tCount_ok hA hz; exact ⟨q1, q2⟩
    · unfold tCount at hz ⊢
      split
      · next hf =>
        rw [if_pos hf] at hz
        split
        · simp
        · next hm => rw [if_neg hm] at hz; exact absurd hf hz
      · simp
  have HN : Hid (tName b t = if (tHas b.length (tCount b 24 t).2 (tCount b 24 t).1).bad = 0 then (strOf ((b.drop (tCount b 24 t).2.pos).take (tCount b 24 t).1.toNat), ⟨(tCount b 24 t).2.pos + (tCount b 24 t).1.toNat, 0, (tCount b 24 t).2.place⟩) else (⟨#[]⟩, tHas b.length (tCount b 24 t).2 (tCount b 24 t).1)) := rfl
  have hL : (tCount b 24 t).2.bad = 0 → 4 ≤ b.length := fun h => by
    obtain ⟨a, _, _⟩ := tCount_ok hA h
    have := congrArg List.length a.2.2
    rw [List.length_append, be4_len, List.length_drop] at this
    omega
  clear ht
  generalize tCount b 24 t = R at CC hP hQ HN hL
  obtain ⟨n, t2⟩ := R
  simp only at CC hP hQ HN hL
  obtain ⟨m, rfl⟩ := Int.eq_ofNat_of_zero_le hQ.1
  have CH := fun wx (h : TkAt wx g A b.length c t2) => has_any g A b.length c t2 m wx h hN (by omega) (by omega) (by omega)
  by_cases hh : (tHas b.length t2 m).bad = 0
  · obtain ⟨hz, hl, he⟩ := tHas_ok hh
    have HN2 : Hid (tName b t = (strOf ((b.drop t2.pos).take m), ⟨t2.pos + m, 0, t2.place⟩)) := by rw [Hid, HN.out, if_pos hh]; simp
    rw [show ((tHas b.length t2 m).bad == 0) = true by rw [hh]; rfl, he] at CH
    clear hh he HN
    have hL' := hL hz
    obtain ⟨a, rfl, q0⟩ := hB 0 (by omega)
    obtain ⟨bl, o, rfl⟩ : ∃ bl o, a = ⟨bl, o, none⟩ := ⟨_, _, spot_none q0⟩
    have hcell : ∀ wx, Below w0.heap.size w0 wx → ∀ i, i < m → wx.cell? ⟨bl, o + t2.pos + i, none⟩ = some (.int .u8 (((b.drop t2.pos).take m).getD i 0)) := fun wx h i hi => by
      obtain ⟨a', e', q'⟩ := (hB.keep h) (t2.pos + i) (by omega)
      cases e'
      rw [addn] at q'
      rw [Nat.add_assoc, q']
      simp [nth, List.getD, hi]
    have hlen : ((b.drop t2.pos).take m).length = m := by rw [List.length_take, List.length_drop]; omega
    have hcv : ∀ wx, Below w0.heap.size w0 wx → (convert 31 9 (.slice (some ⟨bl, o + t2.pos, none⟩) m (c - t2.pos))).run Tryz.prog wx = .ok (.string (strOf ((b.drop t2.pos).take m))) wx := fun wx h => run_convert_bytes_arg (w := wx) 31 5 Tryz.underlying31 Tryz.underlying5 bl (o + t2.pos) m (c - t2.pos) _ hlen (hcell wx h) 9 Tryz.underlying9
    have hcv0 : ∀ wx, m = 0 → (convert 31 9 (.slice (some ⟨bl, o, none⟩) 0 0)).run Tryz.prog wx = .ok (.string (strOf ((b.drop t2.pos).take m))) wx := fun wx h => by
      subst h
      exact run_convert_bytes_arg (w := wx) 31 5 Tryz.underlying31 Tryz.underlying5 bl o 0 0 [] rfl (fun i hi => by omega) 9 Tryz.underlying9
    generalize strOf ((b.drop t2.pos).take m) = X at HN2 hcv hcv0
    go_enter Tryz.func62, Tryz.ntmps62
    go_wp2_with fail
    refine CC.mono ?_
    rintro r w1 ⟨rfl, hb1, ht1⟩
    have HB1 : Hid (But g w w1) := hb1
    have HT1 : Hid (TkAt w1 g (some ⟨bl, o, none⟩) b.length c t2) := ht1
    clear hb1 ht1 CC
    go_wp2_with fail
    refine (CH _ HT1.out).mono ?_
    rintro r w2 ⟨rfl, hb2, ht2⟩
    have HB2 : Hid (But g w w2) := HB1.out.trans hb2
    have HT2 : Hid (TkAt w2 g (some ⟨bl, o, none⟩) b.length c t2) := ht2
    have HW2 : Hid (Below w0.heap.size w0 w2) := HB2.out.below hb0 hg0
    obtain ⟨⟨d0, d1, d2, d3⟩, hf⟩ := ht2
    have f1 := hf 1
    clear hb2 hf CH hcell
    have i1 : (t2.pos : Int) ≤ (t2.pos : Int) + (m : Int) := by omega
    have i2 : (t2.pos : Int) + (m : Int) ≤ (c : Int) := by omega
    have i3 : (t2.pos : Int) + (m : Int) ≤ (b.length : Int) := by omega
    by_cases hcp : c = t2.pos
    · have hm : m = 0 := by omega
      have hcv1 : ∀ k, (convert 31 9 (.slice (some ⟨bl, o, none⟩) 0 0)).run Tryz.prog (w2.drewN k) = .ok (.string X) (w2.drewN k) := fun k => hcv0 _ hm
      clear hcv hcv0
      subst hm
      subst hcp
      go_upto_region 4 with fail
      go_big_quiet (fail)
      go_wp2
      go_ret
      exact ⟨by rw [HN2.out]; rfl, (HB2.out.drewN _).set _ _, by rw [HN2.out]; simp only; rw [← hz]; exact (HT2.out.drewN _).posTo _⟩
    · have hcv1 : ∀ k, (convert 31 9 (.slice (some ⟨bl, o + t2.pos, none⟩) m (c - t2.pos))).run Tryz.prog (w2.drewN k) = .ok (.string X) (w2.drewN k) := fun k => hcv _ (below_drewN HW2.out k)
      clear hcv hcv0
      go_upto_region 4 with fail
      go_big_quiet (fail)
      go_wp2
      go_ret
      exact ⟨by rw [HN2.out]; rfl, (HB2.out.drewN _).set _ _, by rw [HN2.out]; simp only; rw [← hz]; exact (HT2.out.drewN _).posTo _⟩
  · have HN2 : Hid (tName b t = (⟨#[]⟩, tHas b.length t2 m)) := by rw [Hid, HN.out, if_neg hh]
    rw [show ((tHas b.length t2 m).bad == 0) = false by simpa using hh] at CH
    clear hh HN
    go_enter Tryz.func62, Tryz.ntmps62
    go_wp2_with fail
    refine CC.mono ?_
    rintro r w1 ⟨rfl, hb1, ht1⟩
    have HB1 : Hid (But g w w1) := hb1
    have HT1 : Hid (TkAt w1 g A b.length c t2) := ht1
    clear hb1 ht1 CC
    go_wp2_with fail
    refine (CH _ HT1.out).mono ?_
    rintro r w2 ⟨rfl, hb2, ht2⟩
    have HB2 : Hid (But g w w2) := HB1.out.trans hb2
    have HT2 : Hid (TkAt w2 g A b.length c (tHas b.length t2 m)) := ht2
    clear hb2 ht2 CH
    go_wp2
    go_ret
    exact ⟨by rw [HN2.out]; rfl, HB2.out, by rw [HN2.out]; exact HT2.out⟩


end Go.Proofs.YthfcimmfkibmjaaGreatDoor

namespace Go.Proofs.YthfcimmfkibmjaaGreatDoor
open Go.RowKit


/-- A taker stands at most four behind the bytes. -/
def PosB (b : List Int) (t : Tk) : Prop := t.pos ≤ b.length + 4
theorem pos_has {b : List Int} {t : Tk} {n : Int} (h : PosB b t) : PosB b (tHas b.length t n) := by
  unfold tHas
  split
  · exact h
  · exact h
theorem pos_four {b : List Int} {t : Tk} (h : PosB b t) : PosB b (tFour b t).2 := by
  unfold tFour
  split
  · next hc =>
    obtain ⟨_, hl, _⟩ := tHas_ok hc
    unfold PosB
    simp only
    omega
  · exact pos_has h
theorem pos_eight {b : List Int} {t : Tk} (h : PosB b t) : PosB b (tEight b t).2 := by
  unfold tEight
  split
  · next hc =>
    obtain ⟨_, hl, _⟩ := tHas_ok hc
    unfold PosB
    simp only
    omega
  · exact pos_has h
theorem pos_count {b : List Int} {m : Int} {t : Tk} (h : PosB b t) : PosB b (tCount b m t).2 := by
  unfold tCount
  split
  · next hc =>
    split
    · have h2 := pos_four h
      unfold tFour at h2 hc
      split at hc
      · next h3 =>
        rw [if_pos h3] at h2
        exact h2
      · next h3 => exact absurd hc h3
    · exact pos_four h
  · exact pos_four h
theorem count_in {b : List Int} {m : Int} (hA : AreB b) (hm : 0 ≤ m) (t : Tk) : 0 ≤ (tCount b m t).1 ∧ (tCount b m t).1 ≤ m := by
  by_cases hz : (tCount b m t).2.bad = 0
  · obtain ⟨_, q1, q2⟩ := tCount_ok hA hz; exact ⟨q1, q2⟩
  · unfold tCount at hz ⊢
    split
    · next hf =>
      rw [if_pos hf] at hz
      split
      · simp; omega
      · next hm => rw [if_neg hm] at hz; exact absurd hf hz
    · simp; omega
theorem pos_name {b : List Int} {t : Tk} (hA : AreB b) (h : PosB b t) : PosB b (tName b t).2 := by
  have hc := count_in hA (m := 24) (by omega) t
  unfold tName
  split
  · next hz =>
    obtain ⟨_, hl, _⟩ := tHas_ok hz
    unfold PosB
    simp only
    omega
  · exact pos_has (pos_count h)
theorem pos_sym {b : List Int} {t : Tk} (hA : AreB b) (h : PosB b t) : PosB b (tSym b t).2 := pos_count (pos_count (pos_name hA h))
theorem pos_rel {b : List Int} {t : Tk} (h : PosB b t) : PosB b (tRel b t).2 := pos_count (pos_count h)
/-- How far a list has been taken, whatever is wrong. -/
def Fars {α : Type} (f : Tk → α × Tk) (n : Nat) (t0 : Tk) (k : Nat) (done : List α) (t : Tk) : Prop :=
  done.length = k ∧ k ≤ n ∧ tList f n t0 = (done ++ (tList f (n - k) t).1, (tList f (n - k) t).2)
theorem fars_start {α : Type} (f : Tk → α × Tk) (n : Nat) (t : Tk) : Fars f n t 0 [] t := ⟨rfl, Nat.zero_le _, rfl⟩
theorem fars_next {α : Type} {f : Tk → α × Tk} {n k : Nat} {t0 t : Tk} {done : List α} (h : Fars f n t0 k done t) (hk : k < n) (hg : t.bad = 0) : Fars f n t0 (k + 1) (done ++ [(f t).1]) (f t).2 := by
  obtain ⟨h1, h2, h3⟩ := h
  refine ⟨by simp [h1], hk, ?_⟩
  rw [h3, show n - k = (n - (k + 1)) + 1 by omega, list_step _ _ _ hg, List.append_assoc]
  rfl
theorem fars_end {α : Type} {f : Tk → α × Tk} {n k : Nat} {t0 t : Tk} {done : List α} (h : Fars f n t0 k done t) (hk : ¬ (k < n ∧ t.bad = 0)) : tList f n t0 = (done, t) := by
  obtain ⟨h1, h2, h3⟩ := h
  rw [h3]
  by_cases hb : t.bad = 0
  · obtain rfl : k = n := by
      have : ¬ k < n := fun q => hk ⟨q, hb⟩
      omega
    rw [Nat.sub_self]
    simp [tList]
  · rw [list_bad _ _ _ hb]
    simp
/-- A taker at g, a box at P, two rows of their own behind w1. -/
structure Two (w1 : World) (g P : Nat) (A : Option Addr) (N c : Nat) (t : Tk) (cs : Array Value) (Ta : TypeId) (sa : Nat) (Va : Value) (na : Nat) (xa : List Value) (Tb : TypeId) (sb : Nat) (Vb : Value) (nb : Nat) (xb : List Value) (wr : World) : Prop where
  tk : TkAt wr g A N c t
  box : wr.heap[P]? = some (.cells cs 27 (0, 0))
  ra : wr.ownsRow w1.heap.size Ta sa Va na xa
  rb : wr.ownsRow w1.heap.size Tb sb Vb nb xb
  os : wr.os = w1.os
  tape : wr.tape = w1.tape
  output : wr.output = w1.output
  size : w1.heap.size ≤ wr.heap.size
  block : ∀ k, k < w1.heap.size → k ≠ g → k ≠ P → wr.heap[k]? = w1.heap[k]?
section
variable {w1 wr w2 : World} {g P : Nat} {A : Option Addr} {N c : Nat} {t : Tk} {cs : Array Value} {Ta : TypeId} {sa : Nat} {Va : Value} {na : Nat} {xa : List Value} {Tb : TypeId} {sb : Nat} {Vb : Value} {nb : Nat} {xb : List Value}
theorem Two.swap (h : Two w1 g P A N c t cs Ta sa Va na xa Tb sb Vb nb xb wr) : Two w1 g P A N c t cs Tb sb Vb nb xb Ta sa Va na xa wr := ⟨h.tk, h.box, h.rb, h.ra, h.os, h.tape, h.output, h.size, h.block⟩
theorem Two.drewN (h : Two w1 g P A N c t cs Ta sa Va na xa Tb sb Vb nb xb wr) (n : Nat) : Two w1 g P A N c t cs Ta sa Va na xa Tb sb Vb nb xb (wr.drewN n) := ⟨h.tk, h.box, h.ra, h.rb, h.os, h.tape, h.output, h.size, h.block⟩
theorem Two.drew (h : Two w1 g P A N c t cs Ta sa Va na xa Tb sb Vb nb xb wr) : Two w1 g P A N c t cs Ta sa Va na xa Tb sb Vb nb xb wr.drew := ⟨h.tk, h.box, h.ra, h.rb, h.os, h.tape, h.output, h.size, h.block⟩
theorem but_grew (h : But g wr w2) : wr.grownBy w2 (some g) := ⟨h.1, h.2.1, h.2.2.1, h.2.2.2.1, fun k hk hn => h.2.2.2.2 k hk (fun e => hn (by rw [e]))⟩
/-- A taker's call. -/
theorem Two.take {t' : Tk} (h : Two w1 g P A N c t cs Ta sa Va na xa Tb sb Vb nb xb wr) (hg : g < w1.heap.size) (hP : P ≠ g) (hb : But g wr w2) (ht : TkAt w2 g A N c t') : Two w1 g P A N c t' cs Ta sa Va na xa Tb sb Vb nb xb w2 :=
  ⟨ht, but_box hb h.box hP, own_apart h.ra (but_grew hb) (fun b e1 e2 => by have := (h.ra.lt b e1).1; cases e2; omega), own_apart h.rb (but_grew hb) (fun b e1 e2 => by have := (h.rb.lt b e1).1; cases e2; omega), hb.1.trans h.os, hb.2.1.trans h.tape, hb.2.2.1.trans h.output, Nat.le_trans h.size hb.2.2.2.1, fun k k1 k2 k3 => (hb.2.2.2.2 k (Nat.lt_of_lt_of_le k1 h.size) k2).trans (h.block k k1 k2 k3)⟩
theorem tk_of_block {w w' : World} (h : TkAt w g A N c t) (e : w'.heap[g]? = w.heap[g]?) : TkAt w' g A N c t :=
  ⟨⟨(World.cell?_of_block (a := ⟨g, 0, none⟩) e).trans h.1.1, (World.cell?_of_block (a := ⟨g, 1, none⟩) e).trans h.1.2.1, (World.cell?_of_block (a := ⟨g, 2, none⟩) e).trans h.1.2.2.1, (World.cell?_of_block (a := ⟨g, 3, none⟩) e).trans h.1.2.2.2⟩, fun i => (World.frozen?_of_block (a := ⟨g, i, none⟩) e).trans (h.2 i)⟩
theorem tk_lt {w : World} (h : TkAt w g A N c t) : g < w.heap.size := World.block_lt_of_cell? w ⟨g, 0, none⟩ h.1.1
/-- Another block is changed, or made. -/
theorem Two.far {row : Option Nat} (h : Two w1 g P A N c t cs Ta sa Va na xa Tb sb Vb nb xb wr) (hg : wr.grownBy w2 row) (hr : ∀ b, row = some b → w1.heap.size ≤ b) (hG : g < w1.heap.size) (hP : P < w1.heap.size) (ha : Off Va.ownBlock row) (hb : Off Vb.ownBlock row) : Two w1 g P A N c t cs Ta sa Va na xa Tb sb Vb nb xb w2 := by
  have hs := h.size
  have hq : ∀ k, k < w1.heap.size → w2.heap[k]? = wr.heap[k]? := fun k hk => hg.block k (by omega) (fun e => by have := hr k e.symm; omega)
  exact ⟨tk_of_block h.tk (hq g hG), (hq P hP).trans h.box, own_apart h.ra hg ha, own_apart h.rb hg hb, hg.os.trans h.os, hg.tape.trans h.tape, hg.output.trans h.output, Nat.le_trans h.size hg.size, fun k k1 k2 k3 => (hq k k1).trans (h.block k k1 k2 k3)⟩
theorem Two.alloc (h : Two w1 g P A N c t cs Ta sa Va na xa Tb sb Vb nb xb wr) (hG : g < w1.heap.size) (hP : P < w1.heap.size) (o : Obj) : Two w1 g P A N c t cs Ta sa Va na xa Tb sb Vb nb xb (wr.alloc o) :=
  h.far (World.grownBy_alloc wr o none) (fun b e => by cases e) hG hP (fun b _ e => by cases e) (fun b _ e => by cases e)
/-- A cell of the box is written. -/
theorem Two.set (h : Two w1 g P A N c t cs Ta sa Va na xa Tb sb Vb nb xb wr) (hP : P < w1.heap.size) (hPg : P ≠ g) (i : Nat) (u : Value) : Two w1 g P A N c t (cs.setIfInBounds i u) Ta sa Va na xa Tb sb Vb nb xb (wr.setCell ⟨P, i, none⟩ u) := by
  have hg : wr.grownBy (wr.setCell ⟨P, i, none⟩ u) (some P) := ⟨rfl, rfl, rfl, by simp, fun b _ hb => heap_setCell_other wr ⟨P, i, none⟩ b u (fun e => hb (by simp [e]))⟩
  refine ⟨tk_of_block h.tk (heap_setCell_other wr ⟨P, i, none⟩ g u (fun e => hPg e.symm)), heap_setCell_same wr P i cs 27 u h.box, own_apart h.ra hg (fun b e1 e2 => by have := (h.ra.lt b e1).1; cases e2; omega), own_apart h.rb hg (fun b e1 e2 => by have := (h.rb.lt b e1).1; cases e2; omega), h.os, h.tape, h.output, by simpa using h.size, fun k k1 k2 k3 => ?_⟩
  rw [heap_setCell_other wr ⟨P, i, none⟩ k u k3]
  exact h.block k k1 k2 k3
/-- The first row grows. -/
theorem Two.grow {Va' : Value} {na' : Nat} {xa' : List Value} (h : Two w1 g P A N c t cs Ta sa Va na xa Tb sb Vb nb xb wr) (hT : Ta ≠ Tb) (hG : g < w1.heap.size) (hP : P < w1.heap.size) (hg : wr.grownBy w2 Va.ownBlock) (ho : w2.ownsRow w1.heap.size Ta sa Va' na' xa') : Two w1 g P A N c t cs Ta sa Va' na' xa' Tb sb Vb nb xb w2 := by
  have hs := h.size
  have hq : ∀ k, k < w1.heap.size → w2.heap[k]? = wr.heap[k]? := fun k hk => hg.block k (by omega) (fun e => by have := (h.ra.lt k e.symm).1; omega)
  exact ⟨tk_of_block h.tk (hq g hG), (hq P hP).trans h.box, ho, own_other h.rb hg (own_not h.ra hT), hg.os.trans h.os, hg.tape.trans h.tape, hg.output.trans h.output, Nat.le_trans h.size hg.size, fun k k1 k2 k3 => (hq k k1).trans (h.block k k1 k2 k3)⟩
end

end Go.Proofs.YthfcimmfkibmjaaGreatDoor

namespace Go.Proofs.YthfcimmfkibmjaaGreatDoor
open Go.RowKit


/-- What is given back of an object's end. -/
def RestP (g : Nat) (A : Option Addr) (c : Nat) (b : List Int) (x0 x1 x2 x3 : Value) (T : (List Sym × List Rel) × Tk) (w : World) (r : Ending) (w' : World) : Prop :=
  ∃ V3 V4, r = .returned (.agg #[x0, x1, x2, x3, V3, V4]) ∧ w'.ownsRow w.heap.size 68 3 V3 T.1.1.length (sVals T.1.1) ∧ w'.ownsRow w.heap.size 119 2 V4 T.1.2.length (rVals T.1.2) ∧ But g w w' ∧ TkAt w' g A b.length c T.2
def tRest (b : List Int) (n : Nat) (t : Tk) : (List Sym × List Rel) × Tk :=
  (((tList (tSym b) (tCount b 256 t).1.toNat (tCount b 256 t).2).1, (tList (tRel b) (tCount b n (tList (tSym b) (tCount b 256 t).1.toNat (tCount b 256 t).2).2).1.toNat (tCount b n (tList (tSym b) (tCount b 256 t).1.toNat (tCount b 256 t).2).2).2).1), (tList (tRel b) (tCount b n (tList (tSym b) (tCount b 256 t).1.toNat (tCount b 256 t).2).2).1.toNat (tCount b n (tList (tSym b) (tCount b 256 t).1.toNat (tCount b 256 t).2).2).2).2)
theorem Two.below {w0 w1 wr : World} {g P : Nat} {A : Option Addr} {N c : Nat} {t : Tk} {cs : Array Value} {Ta : TypeId} {sa : Nat} {Va : Value} {na : Nat} {xa : List Value} {Tb : TypeId} {sb : Nat} {Vb : Value} {nb : Nat} {xb : List Value} (h : Two w1 g P A N c t cs Ta sa Va na xa Tb sb Vb nb xb wr) (hb : Below w0.heap.size w0 w1) (hg : w0.heap.size ≤ g) (hP : w0.heap.size ≤ P) : Below w0.heap.size w0 wr :=
  ⟨h.os.trans hb.os, h.tape.trans hb.tape, h.output.trans hb.output, Nat.le_trans hb.size h.size, fun k hk => (h.block k (Nat.lt_of_lt_of_le hk hb.size) (by omega) (by omega)).trans (hb.block k hk)⟩
/-- A box of its own behind w1 is written. -/
theorem Two.box7 {w1 wr : World} {g P : Nat} {A : Option Addr} {N c : Nat} {t : Tk} {cs : Array Value} {Ta : TypeId} {sa : Nat} {Va : Value} {na : Nat} {xa : List Value} {Tb : TypeId} {sb : Nat} {Vb : Value} {nb : Nat} {xb : List Value} (h : Two w1 g P A N c t cs Ta sa Va na xa Tb sb Vb nb xb wr) (hG : g < w1.heap.size) (hP : P < w1.heap.size) {B : Nat} (hB : w1.heap.size ≤ B) (ha : Off Va.ownBlock (some B)) (hb : Off Vb.ownBlock (some B)) (i : Nat) (u : Value) : Two w1 g P A N c t cs Ta sa Va na xa Tb sb Vb nb xb (wr.setCell ⟨B, i, none⟩ u) :=
  h.far ⟨rfl, rfl, rfl, by simp, fun b _ hn => heap_setCell_other wr ⟨B, i, none⟩ b u (fun e => hn (by simp [e]))⟩ (fun b e => by cases e; exact hB) hG hP ha hb
theorem Two.but {w w1 wr : World} {g : Nat} {A : Option Addr} {N c : Nat} {t : Tk} {cs : Array Value} {Ta : TypeId} {sa : Nat} {Va : Value} {na : Nat} {xa : List Value} {Tb : TypeId} {sb : Nat} {Vb : Value} {nb : Nat} {xb : List Value} (h : Two w1 g w.heap.size A N c t cs Ta sa Va na xa Tb sb Vb nb xb wr) (hW : Below w.heap.size w w1) : But g w wr :=
  ⟨h.os.trans hW.os, h.tape.trans hW.tape, h.output.trans hW.output, Nat.le_trans hW.size h.size, fun k hk hn => (h.block k (Nat.lt_of_lt_of_le hk hW.size) hn (by omega)).trans (hW.block k hk)⟩
theorem But.setFar {g : Nat} {a b : World} (h : But g a b) {B : Nat} (hB : a.heap.size ≤ B) (i : Nat) (v : Value) : But g a (b.setCell ⟨B, i, none⟩ v) :=
  ⟨h.1, h.2.1, h.2.2.1, by simpa using h.2.2.2.1, fun k hk hn => (heap_setCell_other b ⟨B, i, none⟩ k v (fun e => by simp at e; omega)).trans (h.2.2.2.2 k hk hn)⟩
theorem but_put6 {g : Nat} {a b : World} (h : But g a b) {B : Nat} (hB : a.heap.size ≤ B) (x0 x1 x2 x3 x4 x5 : Value) : But g a ((((((b.setCell ⟨B, 0, none⟩ x0).setCell ⟨B, 1, none⟩ x1).setCell ⟨B, 2, none⟩ x2).setCell ⟨B, 3, none⟩ x3).setCell ⟨B, 4, none⟩ x4).setCell ⟨B, 5, none⟩ x5) :=
  (((((h.setFar hB _ _).setFar hB _ _).setFar hB _ _).setFar hB _ _).setFar hB _ _).setFar hB _ _
theorem TkAt.setFar {w : World} {g : Nat} {A : Option Addr} {n c : Nat} {t : Tk} (h : TkAt w g A n c t) {B : Nat} (hB : g ≠ B) (i : Nat) (v : Value) : TkAt (w.setCell ⟨B, i, none⟩ v) g A n c t := tk_of_block h (heap_setCell_other w ⟨B, i, none⟩ g v hB)
theorem tk_set6 {b : World} {g : Nat} {A : Option Addr} {n c : Nat} {t : Tk} (h : TkAt b g A n c t) {B : Nat} (hB : g ≠ B) (x0 x1 x2 x3 x4 x5 : Value) : TkAt ((((((b.setCell ⟨B, 0, none⟩ x0).setCell ⟨B, 1, none⟩ x1).setCell ⟨B, 2, none⟩ x2).setCell ⟨B, 3, none⟩ x3).setCell ⟨B, 4, none⟩ x4).setCell ⟨B, 5, none⟩ x5) g A n c t :=
  (((((h.setFar hB _ _).setFar hB _ _).setFar hB _ _).setFar hB _ _).setFar hB _ _).setFar hB _ _
theorem off_new {w : World} {base : Nat} {e : TypeId} {size : Nat} {v : Value} {n : Nat} {xs : List Value} (h : w.ownsRow base e size v n xs) : Off v.ownBlock (some w.heap.size) := fun b hb e => by
  have := own_lt h hb
  cases e
  omega
theorem wrap_i8 {x : Int} (h : 0 ≤ x ∧ x ≤ 3) : IntKind.i8.wrap x = x := by
  simp [IntKind.wrap, IntKind.signed, IntKind.bits]
  omega

set_option maxRecDepth 100000 in
set_option maxHeartbeats 8000000 in
theorem refrest_any (g : Nat) (A : Option Addr) (c : Nat) (b : List Int) (t : Tk) (w0 w : World) (hB : IntsAt w0 A .u8 b) (hb0 : Below w0.heap.size w0 w) (hg0 : w0.heap.size ≤ g) (hA : AreB b) (hN : b.length ≤ 524288) (hp : PosB b t) (ht : TkAt w g A b.length c t) (hcap : b.length ≤ c)
    (nm : ByteArray) (dA : Int) (A1 A2 : Option Addr) (n1 n2 c1 c2 : Nat) (hn1 : n1 ≤ 16384) :
    Calls Tryz.prog 66 #[.pointer (some ⟨g, 0, none⟩), .agg #[.string nm, .slice A1 n1 c1, .int .i64 dA, .slice A2 n2 c2, (.slice none 0 0), (.slice none 0 0)]] w
      (RestP g A c b (.string nm) (.slice A1 n1 c1) (.int .i64 dA) (.slice A2 n2 c2) (tRest b n1 t) w) := by
  obtain ⟨is, hs, hs0, hs1, hs2⟩ := info42
  obtain ⟨ir, hr, hr0, hr1, hr2⟩ := info44
  have HG : Hid (g < w.heap.size) := tk_lt ht
  have HN : Hid (∀ t, PosB b t → t.pos ≤ 524292) := fun t h => Nat.le_trans h (by omega)
  generalize hw1 : (w.alloc (.cells #[.string nm, .slice A1 n1 c1, .int .i64 dA, .slice A2 n2 c2, (.slice none 0 0), (.slice none 0 0)] 27)).alloc (.cells #[.string ⟨#[]⟩, .slice none 0 0, .int .i64 0, .slice none 0 0, .slice none 0 0, .slice none 0 0] 27) = w1
  have HSz : Hid (w1.heap.size = w.heap.size + 2) := by rw [Hid, ← hw1]; simp
  have hW1 : Below w.heap.size w w1 := by rw [← hw1]; exact lb_alloc (lb_alloc (Below.refl _ _) _) _
  have hbw : Hid (Below w0.heap.size w0 w1) := lb_trans hb0 hW1
  have hP0 : Hid (w0.heap.size ≤ w.heap.size) := hb0.size
  have hR0 : Hid (w1.heap[w.heap.size + 1]? = some (.cells #[.string ⟨#[]⟩, .slice none 0 0, .int .i64 0, .slice none 0 0, .slice none 0 0, .slice none 0 0] 27 (0, 0))) := by
    have := heap_alloc_new (w.alloc (.cells #[.string nm, .slice A1 n1 c1, .int .i64 dA, .slice A2 n2 c2, (.slice none 0 0), (.slice none 0 0)] 27)) (.cells #[.string ⟨#[]⟩, .slice none 0 0, .int .i64 0, .slice none 0 0, .slice none 0 0, .slice none 0 0] 27)
    rw [hw1, show (w.alloc (.cells #[.string nm, .slice A1 n1 c1, .int .i64 dA, .slice A2 n2 c2, (.slice none 0 0), (.slice none 0 0)] 27)).heap.size = w.heap.size + 1 by simp] at this
    exact this
  have hT0 : Hid (Two w1 g w.heap.size A b.length c t #[.string nm, .slice A1 n1 c1, .int .i64 dA, .slice A2 n2 c2, (.slice none 0 0), .slice none 0 0] 68 3 (.slice none 0 0) 0 (sVals []) 119 2 (.slice none 0 0) 0 [] w1) := by
    refine ⟨ht.keep hW1, ?_, World.ownsRow_nil _ _ _ _, World.ownsRow_nil _ _ _ _, rfl, rfl, rfl, Nat.le_refl _, fun _ _ _ _ => rfl⟩
    rw [← hw1, (lb_alloc (Below.refl _ (w.alloc (.cells #[.string nm, .slice A1 n1 c1, .int .i64 dA, .slice A2 n2 c2, (.slice none 0 0), (.slice none 0 0)] 27))) _).block w.heap.size (by simp)]
    exact heap_alloc_new _ _
  have HW : Hid (Below w.heap.size w w1) := hW1
  have hgs : g < w1.heap.size := by have := HG.out; have := HSz.out; omega
  have hPs : w.heap.size < w1.heap.size := by have := HSz.out; omega
  have hPg : w.heap.size ≠ g := by have := HG.out; omega
  have HGs : Hid _ := hgs
  have HPs : Hid _ := hPs
  have HPg : Hid _ := hPg
  have CC := fun (t : Tk) (m : Int) (hm : 0 ≤ m) (hp : PosB b t) wx (hb : Below w0.heap.size w0 wx) (h : TkAt wx g A b.length c t) => tcount_any g A c b t w0 wx hB hb hg0 hA (by omega) (by have := HN.out t hp; omega) h m hm
  have CN := fun (t : Tk) (hp : PosB b t) wx (hb : Below w0.heap.size w0 wx) (h : TkAt wx g A b.length c t) => tname_any g A c b t w0 wx hB hb hg0 hA (by omega) (by have := HN.out t hp; omega) h hcap (by have := HN.out t hp; omega)
  have hc0 := count_in hA (m := 256) (by omega) t
  have hpt := pos_count (m := 256) hp
  have HR : Hid (∀ (ss : List Sym × Tk) (rs : List Rel) (t4 : Tk) (V3 V4 : Value) (wr : World), tList (tSym b) (tCount b 256 t).1.toNat (tCount b 256 t).2 = (ss.1, ss.2) → tList (tRel b) (tCount b n1 ss.2).1.toNat (tCount b n1 ss.2).2 = (rs, t4) → wr.ownsRow w.heap.size 68 3 V3 ss.1.length (sVals ss.1) → wr.ownsRow w.heap.size 119 2 V4 rs.length (rVals rs) → But g w wr → TkAt wr g A b.length c t4 → RestP g A c b (.string nm) (.slice A1 n1 c1) (.int .i64 dA) (.slice A2 n2 c2) (tRest b n1 t) w (.returned (.agg #[.string nm, .slice A1 n1 c1, .int .i64 dA, .slice A2 n2 c2, V3, V4])) wr) := by
    intro ss rs t4 V3 V4 wr e1 e2 h3 h4 h5 h6
    refine ⟨V3, V4, rfl, ?_, ?_, h5, ?_⟩
    · unfold tRest; rw [e1]; exact h3
    · unfold tRest; rw [e1]; simp only; rw [e2]; exact h4
    · unfold tRest; rw [e1]; simp only; rw [e2]; exact h6
  have C0 := CC t 256 (by omega) hp w1 hbw.out hT0.out.tk
  generalize tCount b 256 t = R at C0 hc0 hpt HR
  obtain ⟨nn, t1⟩ := R
  simp only at C0 hc0 hpt HR
  obtain ⟨m, rfl⟩ := Int.eq_ofNat_of_zero_le hc0.1
  have HPt : Hid _ := hpt
  clear hpt hW1 hgs hPs hPg ht hb0
  simp only [Int.toNat_natCast] at HR
  go_enter Tryz.func66, Tryz.ntmps66
  go_wp2_with fail
  refine C0.mono ?_
  rintro r wa ⟨rfl, hba, hta⟩
  have HT : Hid (Two w1 g w.heap.size A b.length c t1 #[.string nm, .slice A1 n1 c1, .int .i64 dA, .slice A2 n2 c2, (.slice none 0 0), .slice none 0 0] 68 3 (.slice none 0 0) 0 (sVals []) 119 2 (.slice none 0 0) 0 [] wa) := hT0.out.take HGs.out HPg.out hba hta
  clear hba hta C0 hT0 hw1
  go_wp2
  go_loopw [6] (fun i wr => ∃ (k : Nat) (ss : List Sym) (t2 : Tk) (V3 : Value), i = .int .i64 k ∧ k ≤ m ∧ Hid (Fars (tSym b) m t1 k ss t2) ∧ Hid (PosB b t2) ∧ Hid (Two w1 g w.heap.size A b.length c t2 #[.string nm, .slice A1 n1 c1, .int .i64 dA, .slice A2 n2 c2, V3, .slice none 0 0] 68 3 V3 k (sVals ss) 119 2 (.slice none 0 0) 0 [] wr)) (fun i _ => m - (intOf i).toNat)
  case atStart => exact ⟨0, [], t1, (.slice none 0 0), rfl, Nat.zero_le _, fars_start _ _ _, HPt, HT⟩
  case round =>
    clear HT
    obtain ⟨k, ss, t2, V3, rfl, hk, HFar, HP2, HT⟩ := hrel
    have cB := HT.out.tk.1.2.2.1
    by_cases hgo : k < m ∧ t2.bad = 0
    · obtain ⟨hlt, hz⟩ := hgo
      have hz' : (t2.bad == 0) = true := by simpa using hz
      have HFar2 : Hid _ := fars_next HFar.out hlt hz
      have HZ : Hid _ := hz
      clear hz HFar
      go_wp2_with fail
      refine (CN t2 HP2.out wr (HT.out.below hbw.out hg0 hP0.out) HT.out.tk).mono ?_
      rintro r wb ⟨rfl, hb1, ht1⟩
      have HPn : Hid (PosB b (tName b t2).2) := pos_name hA HP2.out
      have HT1 : Hid _ := HT.out.take HGs.out HPg.out hb1 ht1
      have HS : Hid ((tSym b t2) = (((tName b t2).1, (tCount b 3 (tName b t2).2).1, (tCount b great (tCount b 3 (tName b t2).2).2).1), (tCount b great (tCount b 3 (tName b t2).2).2).2)) := rfl
      rw [HS.out] at HFar2
      clear HT hb1 ht1 cB hz' HP2 HZ HS
      generalize tName b t2 = Nm at HT1 HPn HFar2
      obtain ⟨s1, t3⟩ := Nm
      simp only at HT1 HPn HFar2 ⊢
      have hO7 : Hid (Off V3.ownBlock (some wb.heap.size)) := off_new (Two.ra HT1.out)
      have hB7 : Hid (w1.heap.size ≤ wb.heap.size) := Two.size HT1.out
      have HT2 : Hid _ := Two.alloc HT1.out HGs.out HPs.out (.cells #[.string s1, .int .i8 0, .int .i64 0] 68)
      have hX7 : Hid ((wb.alloc (.cells #[.string s1, .int .i8 0, .int .i64 0] 68)).heap[wb.heap.size]? = some (.cells #[.string s1, .int .i8 0, .int .i64 0] 68 (0, 0))) := heap_alloc_new _ _
      have hq := count_in hA (m := 3) (by omega) t3
      have HPc : Hid (PosB b (tCount b 3 t3).2) := pos_count HPn.out
      have C1 := CC t3 3 (by omega) HPn.out _ (Two.below HT2.out hbw.out hg0 hP0.out) (Two.tk HT2.out)
      clear HT1 HPn
      generalize tCount b 3 t3 = Kd at C1 hq HPc HFar2
      obtain ⟨kd, t4⟩ := Kd
      simp only at C1 hq HPc HFar2
      have hwr := wrap_i8 hq
      go_wp2_with fail
      refine C1.mono ?_
      rintro r wc ⟨rfl, hb1, ht1⟩
      have HT3 : Hid _ := Two.take HT2.out HGs.out HPg.out hb1 ht1
      have hX8 := but_box hb1 hX7.out (by have := hB7.out; have := HGs.out; omega)
      have HX8 : Hid _ := hX8
      obtain ⟨x0, x1, x2⟩ := box3_cell hX8
      have f1 := box_fro hX8 1
      clear hb1 ht1 C1 HT2 hX7 hX8
      have HT4 : Hid _ := Two.box7 HT3.out HGs.out HPs.out hB7.out hO7.out (fun b e => by cases e) 1 (.int .i8 kd)
      have HX9 : Hid ((wc.setCell ⟨wb.heap.size, 1, none⟩ (.int .i8 kd)).heap[wb.heap.size]? = some (.cells #[.string s1, .int .i8 kd, .int .i64 0] 68 (0, 0))) := heap_setCell_same wc wb.heap.size 1 _ 68 (.int .i8 kd) HX8.out
      have hq2 := count_in hA (m := great) (by unfold great; omega) t4
      have HPd : Hid (PosB b (tCount b great t4).2) := pos_count HPc.out
      have C2 := CC t4 great (by unfold great; omega) HPc.out _ (Two.below HT4.out hbw.out hg0 hP0.out) (Two.tk HT4.out)
      rw [show great = 2147483647 from rfl] at C2 hq2 HPd HFar2
      clear HT3 HX8 HPc
      generalize tCount b 2147483647 t4 = At at C2 hq2 HPd HFar2
      obtain ⟨at5, t5⟩ := At
      simp only at C2 hq2 HPd HFar2
      go_wp2_with fail
      refine C2.mono ?_
      rintro r wd ⟨rfl, hb1, ht1⟩
      have HT5 : Hid _ := Two.take HT4.out HGs.out HPg.out hb1 ht1
      have hXa := but_box hb1 HX9.out (by have := hB7.out; have := HGs.out; omega)
      clear x0 x1 x2 f1
      obtain ⟨x0, x1, x2⟩ := box3_cell hXa
      have f2 := box_fro hXa 2
      obtain ⟨p0, p1, p2, p3, p4, p5⟩ := box6_cell (Two.box HT5.out)
      have hne : ¬ w.heap.size = wb.heap.size := by have := hB7.out; have := HPs.out; omega
      have hne2 : ¬ wb.heap.size = w.heap.size := by have := hB7.out; have := HPs.out; omega
      have HT6 : Hid _ := Two.alloc (Two.box7 HT5.out HGs.out HPs.out hB7.out hO7.out (fun b e => by cases e) 2 (.int .i64 at5)) HGs.out HPs.out (.cells #[.string s1, .int .i8 kd, .int .i64 at5] 68)
      have hnew : ((wd.setCell ⟨wb.heap.size, 2, none⟩ (.int .i64 at5)).alloc (.cells #[.string s1, .int .i8 kd, .int .i64 at5] 68)).heap[wd.heap.size]? = some (.cells #[.string s1, .int .i8 kd, .int .i64 at5] 68 (0, 0)) := by
        have := heap_alloc_new (wd.setCell ⟨wb.heap.size, 2, none⟩ (.int .i64 at5)) (.cells #[.string s1, .int .i8 kd, .int .i64 at5] 68)
        rwa [show (wd.setCell ⟨wb.heap.size, 2, none⟩ (.int .i64 at5)).heap.size = wd.heap.size by simp] at this
      have HNw : Hid _ := hnew
      have hown6 := Two.ra HT6.out
      have HO6 : Hid _ := hown6
      have hsz6 : w1.heap.size ≤ wd.heap.size := Two.size HT5.out
      have HSz6 : Hid _ := hsz6
      clear hb1 ht1 C2 HT4 HX9 hXa hnew hown6 hsz6
      go_wp2_with (at_builtin; refine wpList_append_own _ rfl (.tmp 35) (.tmp 37) 24 rfl w1.heap.size 68 is (.agg #[.string ⟨#[]⟩, .int .i8 0, .int .i64 0]) 3 32 Tryz.underlying24 hs hs0 hs1 hs2 rfl (by decide) V3 k (sVals ss) rfl HO6.out ⟨wd.heap.size, 0, none⟩ 1 1 [.string s1, .int .i8 kd, .int .i64 at5] rfl rfl (fun j u hu => World.news_of_block HNw.out j u hu) (by simp [Value.oneCell']) (by unfold maxLen; omega) (by omega) (by have := HSz6.out; simp; omega) ?_; intro v1 we hown hgrow hnil; have HT7 : Hid _ := Two.grow HT6.out (by decide) HGs.out HPs.out hgrow hown; obtain ⟨Av, cv, ev, -⟩ := own_any hown; subst ev; have hXb := Two.box HT7.out; have y4 := (box6_cell hXb).2.2.2.2.1; have f4 := box_fro hXb 4; clear hXb hown hgrow hnil x0 x1 x2 f2 p0 p1 p2 p3 p4 p5)
      go_roundw
      case rel => exact ⟨k + 1, _, t5, _, by go_num, by omega, HFar2, HPd, by rw [sVals_snoc]; exact Two.set HT7.out HPs.out HPg.out 4 _⟩
      case measure => simp [intOf]; omega
    · have HL : Hid _ := fars_end HFar.out hgo
      obtain rfl : k = ss.length := HFar.out.1.symm
      have hcase : (ss.length < m ∧ (t2.bad == 0) = false) ∨ ¬ ss.length < m := by
        by_cases hlt : ss.length < m
        · exact Or.inl ⟨hlt, by simpa using fun h => hgo ⟨hlt, h⟩⟩
        · exact Or.inr hlt
      have C3 := CC t2 n1 (by omega) HP2.out wr (HT.out.below hbw.out hg0 hP0.out) HT.out.tk
      have hq := count_in hA (m := n1) (by omega) t2
      have HP3 : Hid (PosB b (tCount b n1 t2).2) := pos_count HP2.out
      have HR2 : Hid _ := fun rs t4 V3 V4 wr => HR.out (ss, t2) rs t4 V3 V4 wr HL.out
      simp only at HR2
      clear HR HFar hgo HL HP2 hc0
      generalize tCount b n1 t2 = R at C3 hq HP3 HR2
      obtain ⟨nr, t3⟩ := R
      simp only at C3 hq HP3 HR2
      obtain ⟨q, rfl⟩ := Int.eq_ofNat_of_zero_le hq.1
      simp only [Int.toNat_natCast] at HR2
      obtain ⟨p0, p1, p2, p3, p4, p5⟩ := box6_cell (Two.box HT.out)
      rcases hcase with ⟨hlt, hz'⟩ | hlt
      all_goals (
        go_wp2_with fail
        refine C3.mono ?_
        rintro r wb ⟨rfl, hb1, ht1⟩
        have HS : Hid (Two w1 g w.heap.size A b.length c t3 #[.string nm, .slice A1 n1 c1, .int .i64 dA, .slice A2 n2 c2, V3, (.slice none 0 0)] 119 2 (.slice none 0 0) 0 (rVals []) 68 3 V3 ss.length (sVals ss) wb) := Two.swap (Two.take HT.out HGs.out HPg.out hb1 ht1)
        clear hb1 ht1 C3 HT cB p0 p1 p2 p3 p4 p5
        go_wp2
        go_loopw [8] (fun i wr => ∃ (k : Nat) (rs : List Rel) (t4 : Tk) (V4 : Value), i = .int .i64 k ∧ k ≤ q ∧ Hid (Fars (tRel b) q t3 k rs t4) ∧ Hid (PosB b t4) ∧ Hid (Two w1 g w.heap.size A b.length c t4 #[.string nm, .slice A1 n1 c1, .int .i64 dA, .slice A2 n2 c2, V3, V4] 119 2 V4 k (rVals rs) 68 3 V3 ss.length (sVals ss) wr)) (fun i _ => q - (intOf i).toNat)
        case atStart => exact ⟨0, [], t3, (.slice none 0 0), rfl, Nat.zero_le _, fars_start _ _ _, HP3, HS⟩
        case round =>
          clear HS
          obtain ⟨k, rs, t4, V4, rfl, hk, HFar, HP4, HT⟩ := hrel
          have cB := HT.out.tk.1.2.2.1
          by_cases hgo : k < q ∧ t4.bad = 0
          · obtain ⟨hlt, hz⟩ := hgo
            have hz' : (t4.bad == 0) = true := by simpa using hz
            have HFar2 : Hid _ := fars_next HFar.out hlt hz
            have HS : Hid ((tRel b t4) = (((tCount b great t4).1, (tCount b great (tCount b great t4).2).1), (tCount b great (tCount b great t4).2).2)) := rfl
            rw [HS.out] at HFar2
            have hq1 := count_in hA (m := great) (by unfold great; omega) t4
            have HPc : Hid (PosB b (tCount b great t4).2) := pos_count HP4.out
            have C1 := CC t4 great (by unfold great; omega) HP4.out wr (HT.out.below hbw.out hg0 hP0.out) HT.out.tk
            rw [show great = 2147483647 from rfl] at C1 hq1 HPc HFar2
            clear hz HFar HS
            generalize tCount b 2147483647 t4 = R at C1 hq1 HPc HFar2
            obtain ⟨at1, t5⟩ := R
            simp only at C1 hq1 HPc HFar2
            go_wp2_with fail
            refine C1.mono ?_
            rintro r wc ⟨rfl, hb1, ht1⟩
            have HT1 : Hid _ := HT.out.take HGs.out HPg.out hb1 ht1
            clear HT hb1 ht1 cB hz' HP4 C1
            have hO7 : Hid (Off V4.ownBlock (some wc.heap.size)) := off_new (Two.ra HT1.out)
            have hO8 : Hid (Off V3.ownBlock (some wc.heap.size)) := off_new (Two.rb HT1.out)
            have hB7 : Hid (w1.heap.size ≤ wc.heap.size) := Two.size HT1.out
            have HT2 : Hid _ := Two.alloc HT1.out HGs.out HPs.out (.cells #[.int .i64 at1, .int .i64 0] 119)
            have hX7 : Hid ((wc.alloc (.cells #[.int .i64 at1, .int .i64 0] 119)).heap[wc.heap.size]? = some (.cells #[.int .i64 at1, .int .i64 0] 119 (0, 0))) := heap_alloc_new _ _
            have hq2 := count_in hA (m := 2147483647) (by omega) t5
            have HPd : Hid (PosB b (tCount b 2147483647 t5).2) := pos_count HPc.out
            have C2 := CC t5 2147483647 (by omega) HPc.out _ (Two.below HT2.out hbw.out hg0 hP0.out) (Two.tk HT2.out)
            clear HT1 HPc
            generalize tCount b 2147483647 t5 = R at C2 hq2 HPd HFar2
            obtain ⟨sy1, t6⟩ := R
            simp only at C2 hq2 HPd HFar2
            go_wp2_with fail
            refine C2.mono ?_
            rintro r wd ⟨rfl, hb1, ht1⟩
            have HT5 : Hid _ := Two.take HT2.out HGs.out HPg.out hb1 ht1
            have hXa := but_box hb1 hX7.out (by have := hB7.out; have := HGs.out; omega)
            obtain ⟨x0, x1⟩ := box2_cell hXa
            have f2 := box_fro hXa 1
            obtain ⟨p0, p1, p2, p3, p4, p5⟩ := box6_cell (Two.box HT5.out)
            have hne : ¬ w.heap.size = wc.heap.size := by have := hB7.out; have := HPs.out; omega
            have hne2 : ¬ wc.heap.size = w.heap.size := by have := hB7.out; have := HPs.out; omega
            have HT6 : Hid _ := Two.alloc (Two.box7 HT5.out HGs.out HPs.out hB7.out hO7.out hO8.out 1 (.int .i64 sy1)) HGs.out HPs.out (.cells #[.int .i64 at1, .int .i64 sy1] 119)
            have hnew : ((wd.setCell ⟨wc.heap.size, 1, none⟩ (.int .i64 sy1)).alloc (.cells #[.int .i64 at1, .int .i64 sy1] 119)).heap[wd.heap.size]? = some (.cells #[.int .i64 at1, .int .i64 sy1] 119 (0, 0)) := by
              have := heap_alloc_new (wd.setCell ⟨wc.heap.size, 1, none⟩ (.int .i64 sy1)) (.cells #[.int .i64 at1, .int .i64 sy1] 119)
              rwa [show (wd.setCell ⟨wc.heap.size, 1, none⟩ (.int .i64 sy1)).heap.size = wd.heap.size by simp] at this
            have HNw : Hid _ := hnew
            have hown6 := Two.ra HT6.out
            have HO6 : Hid _ := hown6
            have hsz6 : w1.heap.size ≤ wd.heap.size := Two.size HT5.out
            have HSz6 : Hid _ := hsz6
            clear hb1 ht1 C2 HT2 hX7 hXa hnew hown6 hsz6
            go_wp2_with (at_builtin; refine wpList_append_own _ rfl (.tmp 64) (.tmp 66) 25 rfl w1.heap.size 119 ir (.agg #[.int .i64 0, .int .i64 0]) 2 16 Tryz.underlying25 hr hr0 hr1 hr2 rfl (by decide) V4 k (rVals rs) rfl HO6.out ⟨wd.heap.size, 0, none⟩ 1 1 [.int .i64 at1, .int .i64 sy1] rfl rfl (fun j u hu => World.news_of_block HNw.out j u hu) (by simp [Value.oneCell']) (by unfold maxLen; omega) (by omega) (by have := HSz6.out; simp; omega) ?_; intro v1 we hown hgrow hnil; have HT7 : Hid _ := Two.grow HT6.out (by decide) HGs.out HPs.out hgrow hown; obtain ⟨Av, cv, ev, -⟩ := own_any hown; subst ev; have hXb := Two.box HT7.out; have y5 := (box6_cell hXb).2.2.2.2.2; have f5 := box_fro hXb 5; clear hXb hown hgrow hnil x0 x1 f2 p0 p1 p2 p3 p4 p5)
            go_roundw
            case rel => exact ⟨k + 1, _, t6, _, by go_num, by omega, HFar2, HPd, by rw [rVals_snoc]; exact Two.set HT7.out HPs.out HPg.out 5 _⟩
            case measure => simp [intOf]; omega
          · have HL2 : Hid _ := fars_end HFar.out hgo
            obtain rfl : k = rs.length := HFar.out.1.symm
            have hcase2 : (rs.length < q ∧ (t4.bad == 0) = false) ∨ ¬ rs.length < q := by
              by_cases hlt : rs.length < q
              · exact Or.inl ⟨hlt, by simpa using fun h => hgo ⟨hlt, h⟩⟩
              · exact Or.inr hlt
            clear hgo HFar HP4
            obtain ⟨Av3, cv3, rfl, -⟩ := own_any (Two.rb HT.out)
            obtain ⟨Av4, cv4, rfl, -⟩ := own_any (Two.ra HT.out)
            have hR1 : wr.heap[w.heap.size + 1]? = some (.cells #[.string ⟨#[]⟩, .slice none 0 0, .int .i64 0, .slice none 0 0, .slice none 0 0, .slice none 0 0] 27 (0, 0)) := by
              rw [HT.out.block (w.heap.size + 1) (by have := HSz.out; omega) (by have := HG.out; omega) (by omega)]
              exact hR0.out
            have HR1 : Hid _ := hR1
            obtain ⟨z0, z1, z2, z3, z4, z5⟩ := box6_cell hR1
            obtain ⟨f0, f1, f2, f3, f4, f5⟩ := box6_fro hR1
            obtain ⟨p0, p1, p2, p3, p4, p5⟩ := box6_cell (Two.box HT.out)
            clear hR1
            rcases hcase2 with ⟨hlt2, hz2⟩ | hlt2
            all_goals (
              go_wp2_with fail
              refine bodyPost_ret (v := .agg #[.string nm, .slice A1 n1 c1, .int .i64 dA, .slice A2 n2 c2, .slice Av3 ss.length cv3, .slice Av4 rs.length cv4]) (by simp [results, Tryz.results66, go_sem, z0, z1, z2, z3, z4, z5]) rfl ?_
              exact HR2.out rs t4 _ _ _ HL2.out (ownsRow_mono (row_set6 (Two.rb HT.out) (by have := HSz.out; omega) _ _ _ _ _ _) (by have := HSz.out; omega)) (ownsRow_mono (row_set6 (Two.ra HT.out) (by have := HSz.out; omega) _ _ _ _ _ _) (by have := HSz.out; omega)) (but_put6 (Two.but HT.out HW.out) (by omega) _ _ _ _ _ _) (tk_set6 HT.out.tk (by have := HG.out; omega) _ _ _ _ _ _)))

end Go.Proofs.YthfcimmfkibmjaaGreatDoor
