/-
  The program takes a byte, and a number of four bytes. The program takes a number of eight bytes, and one that is at most so many.
-/
import Derived.Test.YtfaekkbblpfbhaaDoorProg
import Derived.WalkKit
import Derived.WalkSpells
import Derived.WalkLawsBesides
import Derived.RowKit3
import Derived.Below
import Derived.Deep.QuietTactic
import Derived.BigQuiet
import Derived.WalkSmall
import Derived.Laws.Rows
import Derived.Test.YtfaekkbblpfbhaaDoorIr19
import Derived.Test.YtfaekkbblpfbhaaDoorIr13
import Derived.Laws.EntriesVeiled
namespace Go.Proofs.YtfaekkbblpfbhaaDoor
open Go.RowKit

theorem pow256 {a b : Nat} (h : a ≤ b) : (256 : Int) ^ a ≤ 256 ^ b := by
  have := Nat.pow_le_pow_right (n := 256) (by omega) h
  have e : ∀ k : Nat, (256 : Int) ^ k = ((256 ^ k : Nat) : Int) := fun k => by rw [Int.natCast_pow]; rfl
  rw [e a, e b]
  exact Int.ofNat_le.2 this
theorem or_add64 (X y q : Int) (k : Nat) (hX : X = (2 : Int) ^ k * q) (h0 : 0 ≤ q) (h1 : 0 ≤ y) (h2 : y < (2 : Int) ^ k) (h3 : X + y < 18446744073709551616) : bits .or .u64 X y = X + y := by
  have hp : (0 : Int) < (2 : Int) ^ k := Int.pow_pos (by omega)
  have hX0 : 0 ≤ X := by rw [hX]; exact Int.mul_nonneg (Int.le_of_lt hp) h0
  obtain ⟨Q, rfl⟩ := Int.eq_ofNat_of_zero_le h0
  obtain ⟨Y, rfl⟩ := Int.eq_ofNat_of_zero_le h1
  rw [u64_or X Y hX0 (by omega) (by omega) (by omega)]
  have e : X.toNat = 2 ^ k * Q := by
    rw [hX]
    have : ((2 : Int) ^ k * (Q : Int)) = ((2 ^ k * Q : Nat) : Int) := by simp
    rw [this]; exact Int.toNat_natCast _
  have hy : Y < 2 ^ k := by
    have : ((2 ^ k : Nat) : Int) = (2 : Int) ^ k := by simp
    omega
  rw [Int.toNat_natCast, e, ← Nat.two_pow_add_eq_or_of_lt hy]
  rw [hX]; simp

theorem or4 (n x : Int) (h0 : 0 ≤ n) (h1 : n < 16777216) (hx0 : 0 ≤ x) (hx1 : x < 256) : bits .or .u32 (n * 256) x = n * 256 + x := or_add _ _ n 8 (by omega) h0 hx0 (by omega) (by omega)
theorem next_ok (w0 : World) (ga gb gn gm : Nat) (A : Option Addr) (c : Nat) (b : List Int) (p : Nat) (w : World) (h : TkBy w0 ga gb gn gm A c b p w) (hp : p < b.length) :
    Calls Tryd.prog 93 #[.pointer (some ⟨ga, 0, none⟩), .pointer (some ⟨gb, 0, none⟩)] w fun r w' => r = .returned (.int .u8 (nth b p)) ∧ TkBy w0 ga gb gn gm A c b (p + 1) w' ∧ But ga w w' := by
  obtain ⟨c0, c1, f1, c2, c3⟩ := h.cells
  obtain ⟨a, rfl, q, hx0, hx1⟩ := h.byte hp
  have ho := h.offs.1
  have hl := h.len
  have hcap := h.cap
  have HI : Hid _ := h
  have he : ((p : Int) == (b.length : Int)) = false := by simp; omega
  have hat : (w.setCell ⟨ga, 0, none⟩ (.int .i64 (p + 1))).cell? (a.add p) = some (.int .u8 (nth b p)) := by
    have hab : (a.add p).block ≠ ga := by
      have := World.block_lt_of_cell? _ _ (HI.out.ints p hp).choose_spec.2
      obtain ⟨a2, e2, q2⟩ := HI.out.ints p hp
      cases e2
      have := World.block_lt_of_cell? _ _ q2
      have := HI.out.le
      omega
    exact ((But.refl ga w).set 0 _).cell hab q
  clear h c2 c3
  go_enter Tryd.func93, Tryd.ntmps93
  go_wp2
  go_ret
  exact ⟨rfl, HI.out.to (p + 1) (by omega), (But.refl _ _).set _ _⟩
theorem next_end (w0 : World) (ga gb gn gm : Nat) (A : Option Addr) (c : Nat) (b : List Int) (p : Nat) (w : World) (h : TkBy w0 ga gb gn gm A c b p w) (hp : p = b.length) :
    Calls Tryd.prog 93 #[.pointer (some ⟨ga, 0, none⟩), .pointer (some ⟨gb, 0, none⟩)] w fun r w' => r = .panicked [{ v := .iface 85 (.agg #[.int .i64 27, .int .i64 b.length]), recovered := false }] ∧ w' = w := by
  obtain ⟨c0, c1, f1, c2, c3⟩ := h.cells
  have hl := h.len
  have he : ((p : Int) == (b.length : Int)) = true := by simp; omega
  clear h c2 c3
  subst hp
  go_enter Tryd.func93, Tryd.ntmps93
  go_wp2
  exact ⟨rfl, rfl, rfl⟩
theorem tnum_any (w0 : World) (ga gb gn gm : Nat) (A : Option Addr) (c : Nat) (b : List Int) (p : Nat) (w : World) (h : TkBy w0 ga gb gn gm A c b p w) :
    Calls Tryd.prog 94 #[.pointer (some ⟨gn, 0, none⟩)] w (TakesI w0 ga gb gn gm A c b (tFour b ⟨p, 0, 0⟩) (.int .u32) w) := by
  obtain ⟨c0, c1, f1, c2, c3⟩ := h.cells
  have hpos := h.pos
  have hlen := h.len
  have hA := h.areB
  have HI : Hid _ := h
  clear h
  clear c0 c1 f1 c2 c3
  go_enter Tryd.func94, Tryd.ntmps94
  go_wp2
  go_loopw [3, 2] (fun i n wr => ∃ k : Nat, k ≤ 4 ∧ p + k ≤ b.length ∧ i = .int .i64 k ∧ n = .int .u32 (valB ((b.drop p).take k)) ∧ Hid (TkBy w0 ga gb gn gm A c b (p + k) wr) ∧ Hid (But ga w wr)) (fun i _ _ => 4 - (intOf i).toNat)
  case atStart => exact ⟨0, by omega, by omega, rfl, rfl, HI.out, But.refl _ _⟩
  case round =>
    obtain ⟨k, hk, hpk, rfl, rfl, hin, HB⟩ := hrel
    obtain ⟨-, -, -, c2, -⟩ := hin.out.cells
    by_cases hlt : k < 4
    · by_cases hlb : p + k < b.length
      · have hvr := valB_range ((b.drop p).take k) ((hA.drop p).take k)
        have hvl : ((b.drop p).take k).length = k := by simp; omega
        rw [hvl] at hvr
        have HV : Hid (valB ((b.drop p).take (k + 1)) = valB ((b.drop p).take k) * 256 + nth b (p + k)) := by
          show _ = _
          rw [valB_snoc _ _ (by simp; omega), nth_drop]
        obtain ⟨a, e, _, hx0, hx1⟩ := hin.out.byte hlb
        have hvk : valB ((b.drop p).take k) < 16777216 := Int.lt_of_lt_of_le hvr.2 (show (256 : Int) ^ k ≤ 256 ^ (4 - 1) from pow256 (by omega))
        have hv0 := hvr.1
        have C := next_ok w0 ga gb gn gm A c b (p + k) _ hin.out hlb
        clear hvr hvl e
        generalize nth b (p + k) = x at *
        generalize valB ((b.drop p).take k) = n at *
        have hor := or4 n x hv0 hvk hx0 hx1
        go_wp2_with (go_at_call 93; refine C.mono ?_; rintro e w1 ⟨rfl, hin1, hb1⟩)
        go_roundw
        case rel => exact ⟨k + 1, by omega, by omega, by go_num, by rw [HV.out], hin1, HB.out.trans hb1⟩
        case measure => simp [intOf]; omega
      · have C := next_end w0 ga gb gn gm A c b (p + k) _ hin.out (by omega)
        go_wp2_with (go_at_call 93; refine C.mono ?_; rintro e w1 ⟨rfl, rfl⟩)
        refine ⟨rfl, ?_⟩
        rw [four_no (by omega)]
        exact takesI_no HB.out (by simp) rfl rfl
    · obtain rfl : k = 4 := by omega
      go_wp2
      go_ret
      rw [four_yes hpk]
      exact takesI_yes HB.out rfl (by show Value.int .u32 (valB ((b.drop p).take 4)) = _; rw [val4 (by simp; omega)]) hin.out

end Go.Proofs.YtfaekkbblpfbhaaDoor

namespace Go.Proofs.YtfaekkbblpfbhaaDoor
open Go.RowKit

theorem or32 (n x : Int) (h0 : 0 ≤ n) (h1 : n < 4294967296) (hx0 : 0 ≤ x) (hx1 : x < 4294967296) : bits .or .u64 (n * 4294967296) x = n * 4294967296 + x := or_add64 _ _ n 32 (by omega) h0 hx0 (by omega) (by omega)
theorem eight_parts {b : List Int} {p : Nat} (hA : AreB b) (h : p + 8 ≤ b.length) : tEight b ⟨p, 0, 0⟩ = (s64 (v4 (b.drop p) * 4294967296 + v4 (b.drop (p + 4))), ⟨p + 8, 0, 0⟩) ∧ (0 ≤ v4 (b.drop p) ∧ v4 (b.drop p) < 4294967296) ∧ (0 ≤ v4 (b.drop (p + 4)) ∧ v4 (b.drop (p + 4)) < 4294967296) := by
  refine ⟨?_, (be4_v4 (by simp; omega) (hA.drop _)).2, (be4_v4 (by simp; omega) (hA.drop _)).2⟩
  rw [eight_yes h]
  unfold v8
  rw [List.drop_drop]
set_option maxRecDepth 100000 in
theorem memory_any (w0 : World) (ga gb gn gm : Nat) (A : Option Addr) (c : Nat) (b : List Int) (p : Nat) (w : World) (h : TkBy w0 ga gb gn gm A c b p w) :
    Calls Tryd.prog 95 #[.pointer (some ⟨gm, 0, none⟩)] w (TakesI w0 ga gb gn gm A c b (tEight b ⟨p, 0, 0⟩) (.int .i64) w) := by
  obtain ⟨-, -, -, -, c3⟩ := h.cells
  have hA := h.areB
  have C := tnum_any w0 ga gb gn gm A c b p w h
  by_cases h4 : p + 4 ≤ b.length
  · rw [four_yes h4] at C
    by_cases h8 : p + 8 ≤ b.length
    · obtain ⟨e8, ⟨u0, u1⟩, ⟨v0, v1⟩⟩ := eight_parts hA h8
      have HE : Hid _ := e8
      clear e8
      have C2 := fun wx (hx : TkBy w0 ga gb gn gm A c b (p + 4) wx) => tnum_any w0 ga gb gn gm A c b (p + 4) wx hx
      rw [four_yes (b := b) (p := p + 4) (by omega)] at C2
      generalize v4 (b.drop p) = x at *
      generalize v4 (b.drop (p + 4)) = y at *
      have hor := or32 x y u0 u1 v0 v1
      go_enter Tryd.func95, Tryd.ntmps95
      go_wp2_with fail
      refine C.mono ?_
      intro r w1 hr
      obtain ⟨rfl, hi, hb⟩ := hr.ok rfl
      obtain ⟨-, -, -, -, d3⟩ := TkBy.cells hi
      have HI : Hid (TkBy w0 ga gb gn gm A c b (p + 4) w1) := hi
      have HB : Hid (But ga w w1) := hb
      clear hr hb hi
      go_wp2_with fail
      refine (C2 _ HI.out).mono ?_
      intro r w2 hr
      obtain ⟨rfl, hi, hb⟩ := hr.ok rfl
      clear hr
      have HI2 : Hid (TkBy w0 ga gb gn gm A c b (p + 8) w2) := hi
      have HB2 : Hid (But ga w w2) := HB.out.trans hb
      have HV : Hid (wrap64 (x * 4294967296 + y) = s64 (x * 4294967296 + y)) := by
        show _ = _
        unfold wrap64 s64
        split <;> omega
      clear hi hb
      go_wp2
      go_ret
      rw [HE.out]
      exact takesI_yes HB2.out rfl (by show Value.int .i64 (wrap64 (x * 4294967296 + y)) = _; rw [HV.out]) HI2.out
    · have C2 := fun wx (hx : TkBy w0 ga gb gn gm A c b (p + 4) wx) => tnum_any w0 ga gb gn gm A c b (p + 4) wx hx
      rw [four_no (b := b) (p := p + 4) (by omega)] at C2
      rw [eight_no h8]
      have r1 := (be4_v4 (l := b.drop p) (by simp; omega) (hA.drop _)).2
      generalize v4 (b.drop p) = x at *
      go_enter Tryd.func95, Tryd.ntmps95
      go_wp2_with fail
      refine C.mono ?_
      intro r w1 hr
      obtain ⟨rfl, hi, hb⟩ := hr.ok rfl
      obtain ⟨-, -, -, -, d3⟩ := TkBy.cells hi
      have HI : Hid (TkBy w0 ga gb gn gm A c b (p + 4) w1) := hi
      have HB : Hid (But ga w w1) := hb
      clear hr hb hi
      go_wp2_with fail
      refine (C2 _ HI.out).mono ?_
      intro r w2 hr
      obtain ⟨rfl, hb⟩ := hr.err (by simp)
      clear hr
      go_wp2
      refine ⟨rfl, ?_⟩
      exact takesI_no (HB.out.trans hb) (by simp) rfl rfl
  · rw [four_no h4] at C
    rw [eight_no (by omega)]
    go_enter Tryd.func95, Tryd.ntmps95
    go_wp2_with fail
    refine C.mono ?_
    intro r w1 hr
    obtain ⟨rfl, hb⟩ := hr.err (by simp)
    clear hr
    go_wp2
    refine ⟨rfl, ?_⟩
    exact takesI_no hb (by simp) rfl rfl

theorem count_any (m : Int) (_hm0 : 0 ≤ m) (_hm1 : m < 4294967296) (w0 : World) (ga gb gn gm : Nat) (A : Option Addr) (c : Nat) (b : List Int) (p : Nat) (w : World) (h : TkBy w0 ga gb gn gm A c b p w) :
    Calls Tryd.prog 96 #[.int .u32 m, .pointer (some ⟨ga, 0, none⟩), .pointer (some ⟨gm, 0, none⟩)] w (TakesI w0 ga gb gn gm A c b (tCount b m ⟨p, 0, 0⟩) (.int .u32) w) := by
  obtain ⟨c0, -, -, -, c3⟩ := h.cells
  have hA := h.areB
  have C := tnum_any w0 ga gb gn gm A c b p w h
  by_cases h4 : p + 4 ≤ b.length
  · have r1 := (be4_v4 (l := b.drop p) (by simp; omega) (hA.drop p)).2
    rw [four_yes h4] at C
    by_cases hm : m < v4 (b.drop p)
    · have HM : Hid _ := count_much (m := m) h4 hm
      generalize v4 (b.drop p) = x at *
      go_enter Tryd.func96, Tryd.ntmps96
      go_wp2_with fail
      refine C.mono ?_
      intro r w1 hr
      obtain ⟨rfl, hi, hb⟩ := hr.ok rfl
      clear hr
      go_wp2
      refine ⟨rfl, ?_⟩
      rw [HM.out]
      exact takesI_no hb (by simp) rfl rfl
    · have HM : Hid _ := count_yes (m := m) h4 hm
      generalize v4 (b.drop p) = x at *
      go_enter Tryd.func96, Tryd.ntmps96
      go_wp2_with fail
      refine C.mono ?_
      intro r w1 hr
      obtain ⟨rfl, hi, hb⟩ := hr.ok rfl
      clear hr
      go_wp2
      go_ret
      rw [HM.out]
      exact takesI_yes hb rfl rfl hi
  · rw [four_no h4] at C
    rw [count_no h4]
    go_enter Tryd.func96, Tryd.ntmps96
    go_wp2_with fail
    refine C.mono ?_
    intro r w1 hr
    obtain ⟨rfl, hb⟩ := hr.err (by simp)
    clear hr
    go_wp2
    refine ⟨rfl, ?_⟩
    exact takesI_no hb (by simp) rfl rfl
theorem place_any (w0 : World) (ga gb gn gm : Nat) (A : Option Addr) (c : Nat) (b : List Int) (p : Nat) (w : World) (h : TkBy w0 ga gb gn gm A c b p w) :
    Calls Tryd.prog 92 #[.pointer (some ⟨ga, 0, none⟩)] w fun r w' => r = .returned (.int .i64 p) ∧ w' = w := by
  obtain ⟨c0, -, -, -, -⟩ := h.cells
  clear h
  go_enter Tryd.func92, Tryd.ntmps92
  go_wp2
  go_ret
  exact ⟨rfl, rfl⟩

end Go.Proofs.YtfaekkbblpfbhaaDoor
