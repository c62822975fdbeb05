/-
  The closures, each by what is asked of it.
-/
import Derived.Test.YtmlhnnmelopleaaGreatDoorProg
import Derived.WalkKit
import Derived.WalkSpells
import Derived.WalkLawsBesides
import Derived.RowKit3
import Derived.Below
import Derived.Deep.QuietTactic
import Derived.BigQuiet
import Derived.WalkSmall
import Derived.Laws.Rows
import Derived.Test.YtmlhnnmelopleaaGreatDoorPs17
import Derived.Test.YtmlhnnmelopleaaGreatDoorPs41
import Derived.Test.YtmlhnnmelopleaaGreatDoorPs42
import Derived.Test.YtmlhnnmelopleaaGreatDoorPs29
namespace Go.Proofs.YtmlhnnmelopleaaGreatDoor
open Go.RowKit

theorem insN_lt2 {r w o : Nat} (hr : r < 65536) : insN r w o < 65536 := orN_lt hr (Nat.lt_of_le_of_lt Nat.and_le_right (by omega))
theorem orE_lt2 {F : Int → Nat} (l : List Int) : ∀ k, (∀ t, t < k → F (nth l t) < 65536) → orE F l k < 65536
  | 0, _ => by show 0 < 65536; decide
  | k + 1, h => orN_lt (orE_lt2 l k fun t ht => h t (by omega)) (h k (by omega))
theorem BhI.lt {text : List Int} {ent : Int} {H : Int → Nat} (h : BhI text ent H) {p : Nat} (hp : p < text.length) : H (p : Int) < 65536 := by
  obtain ⟨F, G, hL, hH⟩ := h
  obtain ⟨i, hi, h1, h2⟩ := blk_all (ent := ent) (by omega : 0 < text.length) hp
  rw [hH i hi p h1 h2]
  refine setB_lt _ _ ?_ _
  have hs := hL.sol
  rw [hs.out i hi]
  refine orE_lt2 _ _ fun t ht => ?_
  obtain ⟨a, b⟩ := edgT_inn text ent i t hi ht
  obtain ⟨j, hj⟩ : ∃ j : Nat, nth (rowZ (edgT text ent (blkL text ent).length) i) t = (j : Int) := ⟨_, (Int.toNat_of_nonneg a).symm⟩
  rw [hj] at b ⊢
  rw [hs.inn j (by omega)]
  exact insN_lt2 (blR_lt _ _ _)
def ClsQ (kd : Int) (n h z : Nat) (p : Int) (k : Nat) (w : World) (e : Ending) (w' : World) : Prop := (∃ v1 v2 v3 : Int, e = .returned (.tuple #[.agg #[.int .i64 v1, .int .i8 v2, .int .i8 v3], .bool (tstN kd n h z k)]) ∧ (tstN kd n h z k = true → v1 = p ∧ (v2, v3) = ansN z k)) ∧ Below w.heap.size w w'

theorem clsU0 (bk bl bb bz br bt : Nat) (text : List Int) (ent : Int) (H : Int → Nat) (n p0 m : Nat) (X : Option Addr) (cx p : Nat) (w : World) (_hT : Tz w) (hC : ClsAt w bk bl bb bz br bt text ent H n p0 m X cx) (_hnm : n = m + 1) (_hp : p + n ≤ text.length) (_hl : text.length ≤ 16384) (_hs : cutN text p n = cutN text p0 n) :
    Calls Tryz.prog 75 #[.int .i64 (p : Int), .pointer (some ⟨bk, 0, none⟩)] w (ClsQ (kindN (cutN text p0 n)) n (H ((p + n - 1 : Nat) : Int)) (busyN text H n p) (p : Int) 0 w) := by
  refine (cls1_any bk _ (p : Int) w hC.k).mono ?_
  rintro e w' ⟨rfl, hb⟩
  exact ⟨⟨_, _, _, rfl, fun _ => ⟨rfl, rfl⟩⟩, hb⟩

theorem clsU1 (bk bl bb bz br bt : Nat) (text : List Int) (ent : Int) (H : Int → Nat) (n p0 m : Nat) (X : Option Addr) (cx p : Nat) (w : World) (_hT : Tz w) (hC : ClsAt w bk bl bb bz br bt text ent H n p0 m X cx) (_hnm : n = m + 1) (_hp : p + n ≤ text.length) (_hl : text.length ≤ 16384) (_hs : cutN text p n = cutN text p0 n) :
    Calls Tryz.prog 76 #[.int .i64 (p : Int), .pointer (some ⟨bk, 0, none⟩)] w (ClsQ (kindN (cutN text p0 n)) n (H ((p + n - 1 : Nat) : Int)) (busyN text H n p) (p : Int) 1 w) := by
  refine (cls2_any bk _ (p : Int) w hC.k).mono ?_
  rintro e w' ⟨rfl, hb⟩
  exact ⟨⟨_, _, _, rfl, fun _ => ⟨rfl, rfl⟩⟩, hb⟩

theorem clsU2 (bk bl bb bz br bt : Nat) (text : List Int) (ent : Int) (H : Int → Nat) (n p0 m : Nat) (X : Option Addr) (cx p : Nat) (w : World) (_hT : Tz w) (hC : ClsAt w bk bl bb bz br bt text ent H n p0 m X cx) (hnm : n = m + 1) (hp : p + n ≤ text.length) (hl : text.length ≤ 16384) (_hs : cutN text p n = cutN text p0 n) :
    Calls Tryz.prog 77 #[.int .i64 (p : Int), .pointer (some ⟨bk, 0, none⟩), .pointer (some ⟨bb, 0, none⟩), .pointer (some ⟨bz, 0, none⟩)] w (ClsQ (kindN (cutN text p0 n)) n (H ((p + n - 1 : Nat) : Int)) (busyN text H n p) (p : Int) 2 w) := by
  by_cases h3 : kindN (cutN text p0 n) = 3
  · obtain ⟨ha, cH, hb, hI, hB⟩ := hC.b h3
    obtain ⟨x, ex, q⟩ := hI (p + m) (by rw [setL_len]; omega)
    obtain rfl := Option.some.inj ex
    rw [setL_nth (by omega)] at q
    have hk := hC.k
    rw [h3] at hk
    have hlt := hB.lt (p := p + m) (by omega)
    rw [show p + n - 1 = p + m by omega, h3]
    refine (cls3_any bk bb bz p m (p + m) text.length cH _ ha w hk hb hC.z rfl (by omega) hl q hlt).mono ?_
    rintro e w' ⟨rfl, hb'⟩
    exact ⟨⟨_, _, _, rfl, fun _ => ⟨rfl, rfl⟩⟩, hb'⟩
  · have hin := kind_in (cutN text p0 n)
    have hk := hC.k
    generalize kindN (cutN text p0 n) = kd at *
    refine (cls3_no bk bb bz kd (p : Int) w hk (by omega)).mono ?_
    rintro e w' ⟨rfl, hb'⟩
    have e0 : tstN kd n (H ((p + n - 1 : Nat) : Int)) (busyN text H n p) 2 = false := by simp [tstN, h3]
    exact ⟨⟨_, _, _, by rw [e0], fun h => by rw [e0] at h; cases h⟩, hb'⟩

theorem clsU3 (bk bl bb bz br bt : Nat) (text : List Int) (ent : Int) (H : Int → Nat) (n p0 m : Nat) (X : Option Addr) (cx p : Nat) (w : World) (hT : Tz w) (hC : ClsAt w bk bl bb bz br bt text ent H n p0 m X cx) (hnm : n = m + 1) (hp : p + n ≤ text.length) (hl : text.length ≤ 16384) (hs : cutN text p n = cutN text p0 n) :
    Calls Tryz.prog 78 #[.int .i64 (p : Int), .pointer (some ⟨bk, 0, none⟩), .pointer (some ⟨bl, 0, none⟩), .pointer (some ⟨bb, 0, none⟩), .pointer (some ⟨bz, 0, none⟩), .pointer (some ⟨br, 0, none⟩), .pointer (some ⟨bt, 0, none⟩)] w (ClsQ (kindN (cutN text p0 n)) n (H ((p + n - 1 : Nat) : Int)) (busyN text H n p) (p : Int) 3 w) := by
  by_cases h3 : kindN (cutN text p0 n) = 3
  · have hk := hC.k
    rw [h3] at hk
    by_cases hn : n ≤ 3
    · refine (cls4_few bk bl bb bz br bt (p : Int) X n cx w hk hC.l hn).mono ?_
      rintro e w' ⟨rfl, hb'⟩
      have e0 : tstN (kindN (cutN text p0 n)) n (H ((p + n - 1 : Nat) : Int)) (busyN text H n p) 3 = false := by
        have : ¬ 3 < n := by omega
        simp [tstN, this]
      exact ⟨⟨_, _, _, by rw [e0], fun h => by rw [e0] at h; cases h⟩, hb'⟩
    · obtain ⟨ha, cH, hb, hI, hB⟩ := hC.b h3
      obtain ⟨x, ex, q⟩ := hI (p + m) (by rw [setL_len]; omega)
      obtain rfl := Option.some.inj ex
      rw [setL_nth (by omega)] at q
      have hlt := hB.lt (p := p + m) (by omega)
      have hz : busyN text H n p = H ((p + m : Nat) : Int) ||| allR (cutN text p0 n) n ||| allW (cutN text p0 n) n := by
        unfold busyN
        rw [hs, show p + n - 1 = p + m by omega]
      rw [hz, h3]
      refine (cls4_any bk bl bb bz br bt p m (p + m) text.length cH _ _ _ X n cx ha w hk hC.l (by omega) hb hC.z hC.r hC.t rfl (by omega) hl q hlt (allR_lt _ _) (allW_lt _ _) hT).mono ?_
      rintro e w' ⟨rfl, hb'⟩
      have e0 : tstN 3 n (H ((p + n - 1 : Nat) : Int)) (H ((p + m : Nat) : Int) ||| allR (cutN text p0 n) n ||| allW (cutN text p0 n) n) 3 = decide (lestN (H ((p + m : Nat) : Int) ||| allR (cutN text p0 n) n ||| allW (cutN text p0 n) n) < 15) := by
        have : 3 < n := by omega
        simp [tstN, this]
      exact ⟨⟨_, _, _, by rw [e0], fun _ => ⟨rfl, rfl⟩⟩, hb'⟩
  · have hin := kind_in (cutN text p0 n)
    have hk := hC.k
    generalize kindN (cutN text p0 n) = kd at *
    refine (cls4_no bk bl bb bz br bt kd (p : Int) w hk h3).mono ?_
    rintro e w' ⟨rfl, hb'⟩
    have e0 : tstN kd n (H ((p + n - 1 : Nat) : Int)) (busyN text H n p) 3 = false := by simp [tstN, h3]
    exact ⟨⟨_, _, _, by rw [e0], fun h => by rw [e0] at h; cases h⟩, hb'⟩

end Go.Proofs.YtmlhnnmelopleaaGreatDoor
