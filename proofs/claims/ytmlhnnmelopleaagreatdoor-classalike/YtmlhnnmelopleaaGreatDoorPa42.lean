/-
  A list of spots in memory. The closures, each by what is asked of it.
-/
import Derived.Test.YtmlhnnmelopleaaGreatDoorProg
import Derived.WalkKit
import Derived.WalkSpells
import Derived.WalkLawsBesides
import Derived.RowKit3
import Derived.Below
import Derived.Deep.QuietTactic
import Derived.BigQuiet
import Derived.WalkSmall
import Derived.Laws.Rows
import Derived.Test.YtmlhnnmelopleaaGreatDoorPa01
import Derived.Test.YtmlhnnmelopleaaGreatDoorPa09
import Derived.Test.YtmlhnnmelopleaaGreatDoorPa23
import Derived.OwnWalk
import Derived.Deep.SlicePairs
import Derived.Test.YtmlhnnmelopleaaGreatDoorPa17
import Derived.Test.YtmlhnnmelopleaaGreatDoorPa41
import Derived.Test.YtmlhnnmelopleaaGreatDoorPa29
namespace Go.Proofs.YtmlhnnmelopleaaGreatDoor
open Go.RowKit

abbrev Spt := Int × Int × Int
def spD : Spt := (0, 0, 0)
def spt (l : List Spt) (k : Nat) : Spt := l.getD k spD
theorem spt_mem {l : List Spt} {k : Nat} (h : k < l.length) : spt l k ∈ l := by
  unfold spt
  rw [List.getD_eq_getElem?_getD, List.getElem?_eq_getElem h]
  exact List.getElem_mem _
def SpAt (w : World) (A : Option Addr) (l : List Spt) : Prop := ∀ j, j < l.length → ∃ a : Addr, A = some a ∧ w.cell? (a.add (j * 3)) = some (.int .i64 (spt l j).1) ∧ w.cell? ((a.add (j * 3)).add 1) = some (.int .i8 (spt l j).2.1) ∧ w.cell? ((a.add (j * 3)).add 2) = some (.int .i8 (spt l j).2.2)
theorem SpAt.keep {w w' : World} {A : Option Addr} {l : List Spt} (h : SpAt w A l) (hb : Below w.heap.size w w') : SpAt w' A l := fun j hj => by
  obtain ⟨a, e, q1, q2, q3⟩ := h j hj
  exact ⟨a, e, lkeep hb q1, lkeep hb q2, lkeep hb q3⟩
def spNews (l : List Spt) : List Value := l.flatMap fun s => [.int .i64 s.1, .int .i8 s.2.1, .int .i8 s.2.2]
theorem spNews_len : ∀ l : List Spt, (spNews l).length = l.length * 3
  | [] => rfl
  | r :: R => by
    show (Value.int .i64 r.1 :: Value.int .i8 r.2.1 :: Value.int .i8 r.2.2 :: spNews R).length = _
    rw [List.length_cons, List.length_cons, List.length_cons, spNews_len R, List.length_cons]
    omega
theorem spNews_app (R Q : List Spt) : spNews (R ++ Q) = spNews R ++ spNews Q := by simp [spNews]
theorem spNews_get : ∀ {R : List Spt} {j : Nat}, j < R.length → (spNews R)[j * 3]? = some (.int .i64 (spt R j).1) ∧ (spNews R)[j * 3 + 1]? = some (.int .i8 (spt R j).2.1) ∧ (spNews R)[j * 3 + 2]? = some (.int .i8 (spt R j).2.2)
  | r :: R, 0, _ => ⟨rfl, rfl, rfl⟩
  | r :: R, j + 1, h => by
    have ih := spNews_get (R := R) (j := j) (by simp at h; omega)
    show (Value.int .i64 r.1 :: Value.int .i8 r.2.1 :: Value.int .i8 r.2.2 :: spNews R)[(j + 1) * 3]? = _ ∧ (Value.int .i64 r.1 :: Value.int .i8 r.2.1 :: Value.int .i8 r.2.2 :: spNews R)[(j + 1) * 3 + 1]? = _ ∧ (Value.int .i64 r.1 :: Value.int .i8 r.2.1 :: Value.int .i8 r.2.2 :: spNews R)[(j + 1) * 3 + 2]? = _
    rw [show (j + 1) * 3 = j * 3 + 1 + 1 + 1 by omega, show j * 3 + 1 + 1 + 1 + 1 = (j * 3 + 1) + 1 + 1 + 1 by omega, show j * 3 + 1 + 1 + 1 + 2 = (j * 3 + 2) + 1 + 1 + 1 by omega]
    simp only [List.getElem?_cons_succ]
    exact ih
theorem spNews_one (R : List Spt) : ∀ u ∈ spNews R, u.oneCell' = true := fun u hu => by
  unfold spNews at hu
  obtain ⟨r, _, hu⟩ := List.mem_flatMap.1 hu
  simp only [List.mem_cons, List.not_mem_nil, or_false] at hu
  rcases hu with rfl | rfl | rfl <;> rfl
theorem row_sps {w : World} {base c n : Nat} {e : TypeId} {A : Option Addr} {R : List Spt} (h : w.ownsRow base e 3 (.slice A n c) R.length (spNews R)) : SpAt w A R := fun i hi => by
  rcases h.2 with ⟨_, h0⟩ | ⟨j, cap, cur, hv, hb, hg, hc, _⟩
  · omega
  · cases hv
    obtain ⟨a, b, d⟩ := spNews_get hi
    refine ⟨_, rfl, h.cells rfl _ _ a, ?_, ?_⟩
    · rw [Deep.add_add]; exact h.cells rfl _ _ b
    · rw [Deep.add_add]; exact h.cells rfl _ _ d
theorem infoSp : ∃ i, Tryz.prog.info? 54 = some i ∧ i.zero = some (.agg #[.int .i64 0, .int .i8 0, .int .i8 0]) ∧ i.size = 3 ∧ i.bytes = 16 :=
  ⟨(Tryz.prog.info? 54).get (by kernel_rfl), by kernel_rfl, by kernel_rfl, by kernel_rfl, by kernel_rfl⟩
theorem sp_oneI (a b c : Int) : ∀ u ∈ [Value.int .i64 a, .int .i8 b, .int .i8 c], u.oneCell' = true := fun u hu => by
  simp only [List.mem_cons, List.not_mem_nil, or_false] at hu
  rcases hu with rfl | rfl | rfl <;> rfl
theorem own_formS {w : World} {b n sz : Nat} {T : TypeId} {v : Value} {xs : List Value} (h : w.ownsRow b T sz v n xs) : ∃ A c, v = .slice A n c ∧ n ≤ c := by
  rcases h.2 with ⟨e, e2⟩ | ⟨g, cap, cur, e, _, _, hc, _⟩
  · exact ⟨none, 0, by rw [e, e2], by omega⟩
  · exact ⟨_, _, e, hc⟩

end Go.Proofs.YtmlhnnmelopleaaGreatDoor

namespace Go.Proofs.YtmlhnnmelopleaaGreatDoor
open Go.RowKit

theorem insN_lt2 {r w o : Nat} (hr : r < 65536) : insN r w o < 65536 := orN_lt hr (Nat.lt_of_le_of_lt Nat.and_le_right (by omega))
theorem orE_lt2 {F : Int → Nat} (l : List Int) : ∀ k, (∀ t, t < k → F (nth l t) < 65536) → orE F l k < 65536
  | 0, _ => by show 0 < 65536; decide
  | k + 1, h => orN_lt (orE_lt2 l k fun t ht => h t (by omega)) (h k (by omega))
theorem BhI.lt {text : List Int} {ent : Int} {H : Int → Nat} (h : BhI text ent H) {p : Nat} (hp : p < text.length) : H (p : Int) < 65536 := by
  obtain ⟨F, G, hL, hH⟩ := h
  obtain ⟨i, hi, h1, h2⟩ := blk_all (ent := ent) (by omega : 0 < text.length) hp
  rw [hH i hi p h1 h2]
  refine setB_lt _ _ ?_ _
  have hs := hL.sol
  rw [hs.out i hi]
  refine orE_lt2 _ _ fun t ht => ?_
  obtain ⟨a, b⟩ := edgT_inn text ent i t hi ht
  obtain ⟨j, hj⟩ : ∃ j : Nat, nth (rowZ (edgT text ent (blkL text ent).length) i) t = (j : Int) := ⟨_, (Int.toNat_of_nonneg a).symm⟩
  rw [hj] at b ⊢
  rw [hs.inn j (by omega)]
  exact insN_lt2 (blR_lt _ _ _)
def ClsQ (kd : Int) (n h z : Nat) (p : Int) (k : Nat) (w : World) (e : Ending) (w' : World) : Prop := (∃ v1 v2 v3 : Int, e = .returned (.tuple #[.agg #[.int .i64 v1, .int .i8 v2, .int .i8 v3], .bool (tstN kd n h z k)]) ∧ (tstN kd n h z k = true → v1 = p ∧ (v2, v3) = ansN z k)) ∧ Below w.heap.size w w'

theorem clsU0 (bk bl bb bz br bt : Nat) (text : List Int) (ent : Int) (H : Int → Nat) (n p0 m : Nat) (X : Option Addr) (cx p : Nat) (w : World) (_hT : Tz w) (hC : ClsAt w bk bl bb bz br bt text ent H n p0 m X cx) (_hnm : n = m + 1) (_hp : p + n ≤ text.length) (_hl : text.length ≤ 16384) (_hs : cutN text p n = cutN text p0 n) :
    Calls Tryz.prog 75 #[.int .i64 (p : Int), .pointer (some ⟨bk, 0, none⟩)] w (ClsQ (kindN (cutN text p0 n)) n (H ((p + n - 1 : Nat) : Int)) (busyN text H n p) (p : Int) 0 w) := by
  refine (cls1_any bk _ (p : Int) w hC.k).mono ?_
  rintro e w' ⟨rfl, hb⟩
  exact ⟨⟨_, _, _, rfl, fun _ => ⟨rfl, rfl⟩⟩, hb⟩

theorem clsU1 (bk bl bb bz br bt : Nat) (text : List Int) (ent : Int) (H : Int → Nat) (n p0 m : Nat) (X : Option Addr) (cx p : Nat) (w : World) (_hT : Tz w) (hC : ClsAt w bk bl bb bz br bt text ent H n p0 m X cx) (_hnm : n = m + 1) (_hp : p + n ≤ text.length) (_hl : text.length ≤ 16384) (_hs : cutN text p n = cutN text p0 n) :
    Calls Tryz.prog 76 #[.int .i64 (p : Int), .pointer (some ⟨bk, 0, none⟩)] w (ClsQ (kindN (cutN text p0 n)) n (H ((p + n - 1 : Nat) : Int)) (busyN text H n p) (p : Int) 1 w) := by
  refine (cls2_any bk _ (p : Int) w hC.k).mono ?_
  rintro e w' ⟨rfl, hb⟩
  exact ⟨⟨_, _, _, rfl, fun _ => ⟨rfl, rfl⟩⟩, hb⟩

theorem clsU2 (bk bl bb bz br bt : Nat) (text : List Int) (ent : Int) (H : Int → Nat) (n p0 m : Nat) (X : Option Addr) (cx p : Nat) (w : World) (_hT : Tz w) (hC : ClsAt w bk bl bb bz br bt text ent H n p0 m X cx) (hnm : n = m + 1) (hp : p + n ≤ text.length) (hl : text.length ≤ 16384) (_hs : cutN text p n = cutN text p0 n) :
    Calls Tryz.prog 77 #[.int .i64 (p : Int), .pointer (some ⟨bk, 0, none⟩), .pointer (some ⟨bb, 0, none⟩), .pointer (some ⟨bz, 0, none⟩)] w (ClsQ (kindN (cutN text p0 n)) n (H ((p + n - 1 : Nat) : Int)) (busyN text H n p) (p : Int) 2 w) := by
  by_cases h3 : kindN (cutN text p0 n) = 3
  · obtain ⟨ha, cH, hb, hI, hB⟩ := hC.b h3
    obtain ⟨x, ex, q⟩ := hI (p + m) (by rw [setL_len]; omega)
    obtain rfl := Option.some.inj ex
    rw [setL_nth (by omega)] at q
    have hk := hC.k
    rw [h3] at hk
    have hlt := hB.lt (p := p + m) (by omega)
    rw [show p + n - 1 = p + m by omega, h3]
    refine (cls3_any bk bb bz p m (p + m) text.length cH _ ha w hk hb hC.z rfl (by omega) hl q hlt).mono ?_
    rintro e w' ⟨rfl, hb'⟩
    exact ⟨⟨_, _, _, rfl, fun _ => ⟨rfl, rfl⟩⟩, hb'⟩
  · have hin := kind_in (cutN text p0 n)
    have hk := hC.k
    generalize kindN (cutN text p0 n) = kd at *
    refine (cls3_no bk bb bz kd (p : Int) w hk (by omega)).mono ?_
    rintro e w' ⟨rfl, hb'⟩
    have e0 : tstN kd n (H ((p + n - 1 : Nat) : Int)) (busyN text H n p) 2 = false := by simp [tstN, h3]
    exact ⟨⟨_, _, _, by rw [e0], fun h => by rw [e0] at h; cases h⟩, hb'⟩

theorem clsU3 (bk bl bb bz br bt : Nat) (text : List Int) (ent : Int) (H : Int → Nat) (n p0 m : Nat) (X : Option Addr) (cx p : Nat) (w : World) (hT : Tz w) (hC : ClsAt w bk bl bb bz br bt text ent H n p0 m X cx) (hnm : n = m + 1) (hp : p + n ≤ text.length) (hl : text.length ≤ 16384) (hs : cutN text p n = cutN text p0 n) :
    Calls Tryz.prog 78 #[.int .i64 (p : Int), .pointer (some ⟨bk, 0, none⟩), .pointer (some ⟨bl, 0, none⟩), .pointer (some ⟨bb, 0, none⟩), .pointer (some ⟨bz, 0, none⟩), .pointer (some ⟨br, 0, none⟩), .pointer (some ⟨bt, 0, none⟩)] w (ClsQ (kindN (cutN text p0 n)) n (H ((p + n - 1 : Nat) : Int)) (busyN text H n p) (p : Int) 3 w) := by
  by_cases h3 : kindN (cutN text p0 n) = 3
  · have hk := hC.k
    rw [h3] at hk
    by_cases hn : n ≤ 3
    · refine (cls4_few bk bl bb bz br bt (p : Int) X n cx w hk hC.l hn).mono ?_
      rintro e w' ⟨rfl, hb'⟩
      have e0 : tstN (kindN (cutN text p0 n)) n (H ((p + n - 1 : Nat) : Int)) (busyN text H n p) 3 = false := by
        have : ¬ 3 < n := by omega
        simp [tstN, this]
      exact ⟨⟨_, _, _, by rw [e0], fun h => by rw [e0] at h; cases h⟩, hb'⟩
    · obtain ⟨ha, cH, hb, hI, hB⟩ := hC.b h3
      obtain ⟨x, ex, q⟩ := hI (p + m) (by rw [setL_len]; omega)
      obtain rfl := Option.some.inj ex
      rw [setL_nth (by omega)] at q
      have hlt := hB.lt (p := p + m) (by omega)
      have hz : busyN text H n p = H ((p + m : Nat) : Int) ||| allR (cutN text p0 n) n ||| allW (cutN text p0 n) n := by
        unfold busyN
        rw [hs, show p + n - 1 = p + m by omega]
      rw [hz, h3]
      refine (cls4_any bk bl bb bz br bt p m (p + m) text.length cH _ _ _ X n cx ha w hk hC.l (by omega) hb hC.z hC.r hC.t rfl (by omega) hl q hlt (allR_lt _ _) (allW_lt _ _) hT).mono ?_
      rintro e w' ⟨rfl, hb'⟩
      have e0 : tstN 3 n (H ((p + n - 1 : Nat) : Int)) (H ((p + m : Nat) : Int) ||| allR (cutN text p0 n) n ||| allW (cutN text p0 n) n) 3 = decide (lestN (H ((p + m : Nat) : Int) ||| allR (cutN text p0 n) n ||| allW (cutN text p0 n) n) < 15) := by
        have : 3 < n := by omega
        simp [tstN, this]
      exact ⟨⟨_, _, _, by rw [e0], fun _ => ⟨rfl, rfl⟩⟩, hb'⟩
  · have hin := kind_in (cutN text p0 n)
    have hk := hC.k
    generalize kindN (cutN text p0 n) = kd at *
    refine (cls4_no bk bl bb bz br bt kd (p : Int) w hk h3).mono ?_
    rintro e w' ⟨rfl, hb'⟩
    have e0 : tstN kd n (H ((p + n - 1 : Nat) : Int)) (busyN text H n p) 3 = false := by simp [tstN, h3]
    exact ⟨⟨_, _, _, by rw [e0], fun h => by rw [e0] at h; cases h⟩, hb'⟩

end Go.Proofs.YtmlhnnmelopleaaGreatDoor
