/-
  Two lists of numbers compared, by the document's helpers: true just if they are one list; the first is at most 2^20 long. Two lists of symbols, of relocations compared, by the document's helpers: true just if they are one list; the first is at most 2^20 long. An object compared with one that is the same, by the document's helper: true; the lists are at most 2^20 long. WideImage, SpareImage, EqImage and heavy of the statements, each by what it returns; the lists have at most 2^20 items. lives: a row that comes again; one that is alone.
-/
import Derived.Test.YtblmcphmgicocaaDoorProg
import Derived.WalkKit
import Derived.WalkSpells
import Derived.WalkLawsBesides
import Derived.RowKit3
import Derived.Below
import Derived.Deep.QuietTactic
import Derived.BigQuiet
import Derived.WalkSmall
import Derived.Test.YtblmcphmgicocaaDoorPf01
import Derived.Laws.Rows
import Derived.Test.YtblmcphmgicocaaDoorPf11
import Derived.Test.YtblmcphmgicocaaDoorPf22
import Derived.Test.YtblmcphmgicocaaDoorPf18
import Derived.Test.YtblmcphmgicocaaDoorPf20
import Derived.Test.YtblmcphmgicocaaDoorPf21
namespace Go.Proofs.YtblmcphmgicocaaDoor
open Go.RowKit

set_option maxRecDepth 100000 in
set_option maxHeartbeats 1000000 in
theorem eqwords_any (A B : Option Addr) (ca cb : Nat) (zs ys : List Int) (w : World) (hA : IntsAt w A .u32 zs) (hB : IntsAt w B .u32 ys) (hz : zs.length ≤ 1048576) :
    Calls Tryd.prog 29 #[.slice A zs.length ca, .slice B ys.length cb] w fun e w' => e = .returned (.bool (decide (zs = ys))) ∧ Below w.heap.size w w' := by
  by_cases hl : zs.length = ys.length
  · have hl' : ((zs.length : Int) == (ys.length : Int)) = true := by rw [hl]; simp
    have HL : Hid (zs.length = ys.length) := hl
    clear hl
    go_enter Tryd.func29, Tryd.ntmps29
    go_wp2
    go_loopw [5] (fun i wr => ∃ (k m : Nat), i = .int .i64 k ∧ k ≤ zs.length ∧ wr = w.drewN m ∧ Hid (zs.take k = ys.take k)) (fun i _ => zs.length - (intOf i).toNat)
    case atStart => exact ⟨0, 0, rfl, by omega, rfl, by simp [Hid]⟩
    case round =>
      obtain ⟨k, m, rfl, hk, rfl, HT⟩ := hrel
      by_cases hlt : k < zs.length
      · obtain ⟨a, rfl, c1⟩ := hA k hlt
        obtain ⟨b, rfl, c2⟩ := hB k (by have := HL.out; omega)
        have hlt2 : (k : Int) < (ys.length : Int) := by have := HL.out; omega
        by_cases he : nth zs k = nth ys k
        · have HE : Hid (nth zs k = nth ys k) := he
          have he' : (nth zs k == nth ys k) = true := by simpa using he
          clear he
          go_wp2_with fail
          go_quiet (fail)
          go_wp2
          go_roundw
          case rel => exact ⟨k + 1, _, by go_num, by omega, rfl, take_same HT.out hlt (by omega) HE.out⟩
          case measure => simp [intOf]; omega
        · have HE : Hid (¬ nth zs k = nth ys k) := he
          have he' : (nth zs k == nth ys k) = false := by simpa using he
          clear he
          go_wp2_with fail
          go_quiet (fail)
          go_wp2
          go_ret
          exact ⟨retB (decide_eq_false (nth_ne HE.out)).symm, below_drewN (below_drewN (Below.refl _ _) _) _⟩
      · go_wp2
        go_ret
        exact ⟨retB (decide_eq_true (take_all HT.out (by omega) HL.out)).symm, below_drewN (Below.refl _ _) _⟩
  · have hl' : ((zs.length : Int) == (ys.length : Int)) = false := by simp; omega
    have HL : Hid (¬ zs.length = ys.length) := hl
    clear hl
    go_enter Tryd.func29, Tryd.ntmps29
    go_wp2
    go_ret
    exact ⟨retB (decide_eq_false (fun h => HL.out (by rw [h]))).symm, Below.refl _ _⟩

set_option maxRecDepth 100000 in
set_option maxHeartbeats 1000000 in
theorem eqlongs_any (A B : Option Addr) (ca cb : Nat) (zs ys : List Int) (w : World) (hA : IntsAt w A .i64 zs) (hB : IntsAt w B .i64 ys) (hz : zs.length ≤ 1048576) :
    Calls Tryd.prog 30 #[.slice A zs.length ca, .slice B ys.length cb] w fun e w' => e = .returned (.bool (decide (zs = ys))) ∧ Below w.heap.size w w' := by
  by_cases hl : zs.length = ys.length
  · have hl' : ((zs.length : Int) == (ys.length : Int)) = true := by rw [hl]; simp
    have HL : Hid (zs.length = ys.length) := hl
    clear hl
    go_enter Tryd.func30, Tryd.ntmps30
    go_wp2
    go_loopw [5] (fun i wr => ∃ (k m : Nat), i = .int .i64 k ∧ k ≤ zs.length ∧ wr = w.drewN m ∧ Hid (zs.take k = ys.take k)) (fun i _ => zs.length - (intOf i).toNat)
    case atStart => exact ⟨0, 0, rfl, by omega, rfl, by simp [Hid]⟩
    case round =>
      obtain ⟨k, m, rfl, hk, rfl, HT⟩ := hrel
      by_cases hlt : k < zs.length
      · obtain ⟨a, rfl, c1⟩ := hA k hlt
        obtain ⟨b, rfl, c2⟩ := hB k (by have := HL.out; omega)
        have hlt2 : (k : Int) < (ys.length : Int) := by have := HL.out; omega
        by_cases he : nth zs k = nth ys k
        · have HE : Hid (nth zs k = nth ys k) := he
          have he' : (nth zs k == nth ys k) = true := by simpa using he
          clear he
          go_wp2_with fail
          go_quiet (fail)
          go_wp2
          go_roundw
          case rel => exact ⟨k + 1, _, by go_num, by omega, rfl, take_same HT.out hlt (by omega) HE.out⟩
          case measure => simp [intOf]; omega
        · have HE : Hid (¬ nth zs k = nth ys k) := he
          have he' : (nth zs k == nth ys k) = false := by simpa using he
          clear he
          go_wp2_with fail
          go_quiet (fail)
          go_wp2
          go_ret
          exact ⟨retB (decide_eq_false (nth_ne HE.out)).symm, below_drewN (below_drewN (Below.refl _ _) _) _⟩
      · go_wp2
        go_ret
        exact ⟨retB (decide_eq_true (take_all HT.out (by omega) HL.out)).symm, below_drewN (Below.refl _ _) _⟩
  · have hl' : ((zs.length : Int) == (ys.length : Int)) = false := by simp; omega
    have HL : Hid (¬ zs.length = ys.length) := hl
    clear hl
    go_enter Tryd.func30, Tryd.ntmps30
    go_wp2
    go_ret
    exact ⟨retB (decide_eq_false (fun h => HL.out (by rw [h]))).symm, Below.refl _ _⟩


end Go.Proofs.YtblmcphmgicocaaDoor

namespace Go.Proofs.YtblmcphmgicocaaDoor
open Go.RowKit

def wideC1 (text : List Int) : Obj := .cells (wcur (wInt .u32 text) (fun _ => .int .u32 0) (text.length + 64) (text.length + 64)) 26
def wideC2 (mem : List Int) : Obj := .cells (wcur (wInt .i64 mem) (fun _ => .int .i64 0) (mem.length + 64) (mem.length + 64)) 2
theorem wideimg_lies (A1 A2 : Option Addr) (c1 c2 : Nat) (text mem : List Int) (ent : Int) (w : World) (hT : IntsAt w A1 .u32 text) (hM : IntsAt w A2 .i64 mem) (hl : text.length ≤ 1048576) (hm : mem.length ≤ 1048576) :
    Calls Tryd.prog 5 #[.agg #[.slice A1 text.length c1, .int .i64 ent, .slice A2 mem.length c2]] w fun e w' => ∃ g1 g2 : Nat, e = .returned (.agg #[.slice (some ⟨g1, 0, none⟩) text.length (text.length + 64), .int .i64 ent, .slice (some ⟨g2, 0, none⟩) mem.length (mem.length + 64)]) ∧ Below w.heap.size w w' ∧ IntsAt w' (some ⟨g1, 0, none⟩) .u32 text ∧ MarkI w' .u32 g1 text.length ∧ IntsAt w' (some ⟨g2, 0, none⟩) .i64 mem ∧ MarkI w' .i64 g2 mem.length := by
  go_enter Tryd.func5, Tryd.ntmps5
  go_wp2_with fail
  refine (widewords_any A1 c1 text _ (hT.keep (lb_alloc (lb_alloc (Below.refl _ _) _) _)) hl).mono ?_
  rintro e w1 ⟨rfl, rfl⟩
  go_wp2_with fail
  refine (widelongs_any A2 c2 mem _ (hM.keep (lb_alloc (lb_alloc (lb_alloc (Below.refl _ _) _) _) _)) hm).mono ?_
  rintro e w1 ⟨rfl, rfl⟩
  go_wp2
  refine bodyPost_ret (v := .agg #[.slice (some ⟨w.heap.size + 2, 0, none⟩) text.length (text.length + 64), .int .i64 ent, .slice (some ⟨w.heap.size + 3, 0, none⟩) mem.length (mem.length + 64)]) (by simp [results, Tryd.results5, go_sem]) rfl ⟨_, _, rfl, lb_alloc (lb_alloc (lb_alloc (lb_alloc (Below.refl _ _) _) _) _) _, ?_, ?_, ?_, ?_⟩
  · have h := (wide_ints ((w.alloc (.cells #[.slice (some ⟨w.heap.size + 2, 0, none⟩) text.length (text.length + 64), .int .i64 ent, .slice (some ⟨w.heap.size + 3, 0, none⟩) mem.length (mem.length + 64)] 25)).alloc (.cells #[.slice (some ⟨w.heap.size + 2, 0, none⟩) text.length (text.length + 64), .int .i64 ent, .slice (some ⟨w.heap.size + 3, 0, none⟩) mem.length (mem.length + 64)] 25)) .u32 (fun _ => .int .u32 0) text 26).keep (lb_alloc (Below.refl _ _) (.cells (wcur (wInt .i64 mem) (fun _ => .int .i64 0) (mem.length + 64) (mem.length + 64)) 2))
    rw [al_size, al_size] at h
    exact h
  · have h := (wide_marki ((w.alloc (.cells #[.slice (some ⟨w.heap.size + 2, 0, none⟩) text.length (text.length + 64), .int .i64 ent, .slice (some ⟨w.heap.size + 3, 0, none⟩) mem.length (mem.length + 64)] 25)).alloc (.cells #[.slice (some ⟨w.heap.size + 2, 0, none⟩) text.length (text.length + 64), .int .i64 ent, .slice (some ⟨w.heap.size + 3, 0, none⟩) mem.length (mem.length + 64)] 25)) .u32 (fun _ => .int .u32 0) text 26).keep (lb_alloc (Below.refl _ _) (.cells (wcur (wInt .i64 mem) (fun _ => .int .i64 0) (mem.length + 64) (mem.length + 64)) 2))
    rw [al_size, al_size] at h
    exact h
  · have h := wide_ints (((w.alloc (.cells #[.slice (some ⟨w.heap.size + 2, 0, none⟩) text.length (text.length + 64), .int .i64 ent, .slice (some ⟨w.heap.size + 3, 0, none⟩) mem.length (mem.length + 64)] 25)).alloc (.cells #[.slice (some ⟨w.heap.size + 2, 0, none⟩) text.length (text.length + 64), .int .i64 ent, .slice (some ⟨w.heap.size + 3, 0, none⟩) mem.length (mem.length + 64)] 25)).alloc (.cells (wcur (wInt .u32 text) (fun _ => .int .u32 0) (text.length + 64) (text.length + 64)) 26)) .i64 (fun _ => .int .i64 0) mem 2
    rw [al_size, al_size, al_size] at h
    exact h
  · have h := wide_marki (((w.alloc (.cells #[.slice (some ⟨w.heap.size + 2, 0, none⟩) text.length (text.length + 64), .int .i64 ent, .slice (some ⟨w.heap.size + 3, 0, none⟩) mem.length (mem.length + 64)] 25)).alloc (.cells #[.slice (some ⟨w.heap.size + 2, 0, none⟩) text.length (text.length + 64), .int .i64 ent, .slice (some ⟨w.heap.size + 3, 0, none⟩) mem.length (mem.length + 64)] 25)).alloc (.cells (wcur (wInt .u32 text) (fun _ => .int .u32 0) (text.length + 64) (text.length + 64)) 26)) .i64 (fun _ => .int .i64 0) mem 2
    rw [al_size, al_size, al_size] at h
    exact h
theorem spareimg_any (ent : Int) (g1 n1 g2 n2 : Nat) (w : World) (m1 : MarkI w .u32 g1 n1) (m2 : MarkI w .i64 g2 n2) (b1 : n1 ≤ 1048576) (b2 : n2 ≤ 1048576) :
    Calls Tryd.prog 15 #[.agg #[.slice (some ⟨g1, 0, none⟩) n1 (n1 + 64), .int .i64 ent, .slice (some ⟨g2, 0, none⟩) n2 (n2 + 64)]] w fun e w' => e = .returned (.bool true) ∧ Below w.heap.size w w' := by
  go_enter Tryd.func15, Tryd.ntmps15
  go_wp2_with fail
  refine (sparewords_any g1 n1 _ (m1.keep (lb_alloc (Below.refl _ _) _)) b1).mono ?_
  rintro e w0 ⟨rfl, rfl⟩
  go_wp2_with fail
  refine (sparelongs_any g2 n2 _ (m2.keep (lb_alloc (Below.refl _ _) _)) b2).mono ?_
  rintro e w1 ⟨rfl, rfl⟩
  go_wp2
  go_ret
  exact ⟨rfl, lb_alloc (Below.refl _ _) _⟩
theorem eqimg_same (A1 A2 B1 B2 : Option Addr) (c1 c2 e1 e2 : Nat) (text mem : List Int) (ent : Int) (w : World) (hT : IntsAt w A1 .u32 text) (hM : IntsAt w A2 .i64 mem) (gT : IntsAt w B1 .u32 text) (gM : IntsAt w B2 .i64 mem) (hl : text.length ≤ 1048576) (hm : mem.length ≤ 1048576) :
    Calls Tryd.prog 14 #[.agg #[.slice A1 text.length c1, .int .i64 ent, .slice A2 mem.length c2], .agg #[.slice B1 text.length e1, .int .i64 ent, .slice B2 mem.length e2]] w fun e w' => e = .returned (.bool true) ∧ Below w.heap.size w w' := by
  have E0 := fun wx (hx : Below w.heap.size w wx) => eqwords_any A1 B1 c1 e1 text text wx (hT.keep hx) (gT.keep hx) hl
  simp only [decide_true] at E0
  have E1 := fun wx (hx : Below w.heap.size w wx) => eqlongs_any A2 B2 c2 e2 mem mem wx (hM.keep hx) (gM.keep hx) hm
  simp only [decide_true] at E1
  go_enter Tryd.func14, Tryd.ntmps14
  go_wp2_with fail
  refine (E0 _ (lb_alloc (lb_alloc (Below.refl _ _) _) _)).mono ?_
  rintro e w0 ⟨rfl, hb0⟩
  have HB0 : Hid (Below w.heap.size w w0) := lb_trans (lb_alloc (lb_alloc (Below.refl _ _) _) _) hb0
  have q0a0 : w0.cell? ⟨w.heap.size, 0, none⟩ = some (.slice A1 text.length c1) := lkeep hb0 (by simp [go_sem])
  have q0a1 : w0.cell? ⟨w.heap.size, 1, none⟩ = some (.int .i64 ent) := lkeep hb0 (by simp [go_sem])
  have q0a2 : w0.cell? ⟨w.heap.size, 2, none⟩ = some (.slice A2 mem.length c2) := lkeep hb0 (by simp [go_sem])
  have q0b0 : w0.cell? ⟨w.heap.size + 1, 0, none⟩ = some (.slice B1 text.length e1) := lkeep hb0 (by simp [go_sem])
  have q0b1 : w0.cell? ⟨w.heap.size + 1, 1, none⟩ = some (.int .i64 ent) := lkeep hb0 (by simp [go_sem])
  have q0b2 : w0.cell? ⟨w.heap.size + 1, 2, none⟩ = some (.slice B2 mem.length e2) := lkeep hb0 (by simp [go_sem])
  clear hb0
  go_wp2_with fail
  refine (E1 _ (HB0.out)).mono ?_
  rintro e w1 ⟨rfl, hb1⟩
  have HB1 : Hid (Below w.heap.size w w1) := lb_trans (HB0.out) hb1
  clear hb1
  go_wp2
  go_ret
  exact ⟨rfl, HB1.out⟩
/-- What heavy answers. -/
def HvP (n1 n2 : Nat) (w : World) (e : Ending) (w' : World) : Prop := ∃ B : Bool, e = .returned (.bool B) ∧ (B = false → n1 ≤ 32768 ∧ n2 ≤ 8192) ∧ Below w.heap.size w w'

end Go.Proofs.YtblmcphmgicocaaDoor

namespace Go.Proofs.YtblmcphmgicocaaDoor
open Go.RowKit

def T5 : List Int := [142606341, 2147483648, 142606341, 2147483648, 2818572288]
theorem T5_check : (checkI T5 0 0).1 = 0 := by decide
theorem T5_num : numL T5 5 = [0, 1, 0, 2, 3] := by decide
theorem T0_check : (checkI [] 0 0).1 = 50 := by decide
theorem T4_cnt : cntN [0, 1, 0, 7] 4 = 3 := by decide
theorem sm0 : smB 0 0 = true := by decide
theorem sm1 : smB 1 1 = false := by decide
theorem T5_range : ∀ i, i < T5.length → 0 ≤ nth T5 i ∧ nth T5 i < 4294967296 := fun i hi => by
  have hi : i < 5 := hi
  have : i = 0 ∨ i = 1 ∨ i = 2 ∨ i = 3 ∨ i = 4 := by omega
  rcases this with rfl | rfl | rfl | rfl | rfl <;> decide
theorem T4_range : ∀ i, i < ([0, 1, 0, 7] : List Int).length → -9223372036854775808 ≤ nth [0, 1, 0, 7] i ∧ nth [0, 1, 0, 7] i ≤ 9223372036854775807 := fun i hi => by
  have hi : i < 4 := hi
  have e0 : nth [0, 1, 0, 7] 0 = 0 := rfl
  have e1 : nth [0, 1, 0, 7] 1 = 1 := rfl
  have e2 : nth [0, 1, 0, 7] 2 = 0 := rfl
  have e3 : nth [0, 1, 0, 7] 3 = 7 := rfl
  have : i = 0 ∨ i = 1 ∨ i = 2 ∨ i = 3 := by omega
  rcases this with rfl | rfl | rfl | rfl
  · rw [e0]; omega
  · rw [e1]; omega
  · rw [e2]; omega
  · rw [e3]; omega
theorem five_at (k : IntKind) (T : Nat) (w : World) (a b c d f : Int) : IntsAt (w.alloc (.cells #[.int k a, .int k b, .int k c, .int k d, .int k f] T)) (some ⟨w.heap.size, 0, none⟩) k [a, b, c, d, f] := fun i hi => by
  have hi : i = 0 ∨ i = 1 ∨ i = 2 ∨ i = 3 ∨ i = 4 := by simp at hi; omega
  rcases hi with rfl | rfl | rfl | rfl | rfl <;> exact ⟨_, rfl, by simp [go_sem, nth, Addr.add]⟩
theorem four_at (k : IntKind) (T : Nat) (w : World) (a b c d : Int) : IntsAt (w.alloc (.cells #[.int k a, .int k b, .int k c, .int k d] T)) (some ⟨w.heap.size, 0, none⟩) k [a, b, c, d] := fun i hi => by
  have hi : i = 0 ∨ i = 1 ∨ i = 2 ∨ i = 3 := by simp at hi; omega
  rcases hi with rfl | rfl | rfl | rfl <;> exact ⟨_, rfl, by simp [go_sem, nth, Addr.add]⟩
set_option maxRecDepth 100000 in
set_option maxHeartbeats 4000000 in
theorem lives_any (ho : OfOK) (hs : SameOK) (hc : CountOK) (w : World) : Calls Tryd.prog 4 #[] w fun e w' => e = .returned (.bool true) ∧ Below w.heap.size w w' := by
  have C0 := ho.ok (some ⟨w.heap.size, 0, none⟩) none 5 0 0 0 T5 _ (five_at .u32 26 w 142606341 2147483648 142606341 2147483648 2818572288) T5_range (by decide) (by decide) T5_check
  have C0 : Calls Tryd.prog 7 #[.agg #[.slice (some ⟨w.heap.size, 0, none⟩) 5 5, .int .i64 0, .slice none 0 0]] (w.alloc (.cells #[.int .u32 142606341, .int .u32 2147483648, .int .u32 142606341, .int .u32 2147483648, .int .u32 2818572288] 26)) (OfR T5 (w.alloc (.cells #[.int .u32 142606341, .int .u32 2147483648, .int .u32 142606341, .int .u32 2147483648, .int .u32 2818572288] 26))) := C0
  have C1 : ∀ wx, Calls Tryd.prog 7 #[.agg #[.slice none 0 0, .int .i64 0, .slice none 0 0]] wx (OfN 50 wx) := fun wx => by
    have := ho.no none none 0 0 0 0 [] wx (fun i hi => absurd hi (by simp)) (fun i hi => absurd hi (by simp)) (by decide) (by decide) (by rw [T0_check]; decide)
    rw [T0_check] at this
    exact this
  have C2 : ∀ wx, Calls Tryd.prog 10 #[.int .u32 0, .int .u32 0] wx fun e w' => e = .returned (.bool true) ∧ Below wx.heap.size wx w' := fun wx => hs 0 0 wx (by decide) (by decide) (by decide) (by decide)
  have C3 : ∀ wx, Calls Tryd.prog 10 #[.int .u32 1, .int .u32 1] wx fun e w' => e = .returned (.bool false) ∧ Below wx.heap.size wx w' := fun wx => hs 1 1 wx (by decide) (by decide) (by decide) (by decide)
  have C4 : ∀ wx : World, Calls Tryd.prog 12 #[.slice (some ⟨wx.heap.size, 0, none⟩) 4 4] (wx.alloc (.cells #[.int .i64 0, .int .i64 1, .int .i64 0, .int .i64 7] 3)) fun e w' => e = .returned (.int .i64 3) ∧ Below (wx.alloc (.cells #[.int .i64 0, .int .i64 1, .int .i64 0, .int .i64 7] 3)).heap.size (wx.alloc (.cells #[.int .i64 0, .int .i64 1, .int .i64 0, .int .i64 7] 3)) w' := fun wx => hc _ 4 [0, 1, 0, 7] _ (four_at .i64 3 wx 0 1 0 7) T4_range (by decide)
  have C5 : ∀ (A : Option Addr) (ca : Nat) (wx : World), IntsAt wx A .i64 [0, 1, 0, 2, 3] → Calls Tryd.prog 9 #[.slice A 5 ca, .slice (some ⟨wx.heap.size, 0, none⟩) 5 5] (wx.alloc (.cells #[.int .i64 0, .int .i64 1, .int .i64 0, .int .i64 2, .int .i64 3] 3)) fun e w' => e = .returned (.bool true) ∧ Below (wx.alloc (.cells #[.int .i64 0, .int .i64 1, .int .i64 0, .int .i64 2, .int .i64 3] 3)).heap.size (wx.alloc (.cells #[.int .i64 0, .int .i64 1, .int .i64 0, .int .i64 2, .int .i64 3] 3)) w' := fun A ca wx hA => by
    have := eqints_any A (some ⟨wx.heap.size, 0, none⟩) ca 5 [0, 1, 0, 2, 3] [0, 1, 0, 2, 3] _ (hA.keep (lb_alloc (Below.refl _ _) (.cells #[.int .i64 0, .int .i64 1, .int .i64 0, .int .i64 2, .int .i64 3] 3))) (five_at .i64 3 wx 0 1 0 2 3) (by decide)
    exact this
  clear ho hs hc
  go_enter Tryd.func4, Tryd.ntmps4
  go_upto_region 2 with (go_at_call 7; refine C0.mono ?_; rintro e w1 ⟨A, ca, rfl, hown, hb1⟩; have HB1 : Hid (Below w.heap.size w w1) := lb_trans (lb_alloc (Below.refl _ _) _) hb1; have HI1 : Hid (IntsAt w1 A .i64 [0, 1, 0, 2, 3]) := (by rw [show numL T5 T5.length = [0, 1, 0, 2, 3] from T5_num] at hown; exact row_ints (l := [0, 1, 0, 2, 3]) hown); clear hb1 hown C0)
  go_upto_region 3 with (go_at_call 7; refine (C1 _).mono ?_; rintro e w2 ⟨A', ca', rfl, hown, hb2⟩; have HB2 : Hid (Below w.heap.size w w2) := lb_trans HB1.out hb2; have HI2 : Hid (IntsAt w2 A .i64 [0, 1, 0, 2, 3]) := HI1.out.keep hb2; clear hb2 hown C1 HB1 HI1)
  have C5 := C5 A ca w2 HI2.out
  go_wp2_with fail
  refine C5.mono ?_
  rintro e w3 ⟨rfl, hb3⟩
  clear C5
  go_wp2_with fail
  refine (C4 _).mono ?_
  rintro e w4 ⟨rfl, hb4⟩
  clear C4
  go_wp2_with fail
  refine (C2 _).mono ?_
  rintro e w5 ⟨rfl, hb5⟩
  clear C2
  go_wp2_with fail
  refine (C3 _).mono ?_
  rintro e w6 ⟨rfl, hb6⟩
  clear C3
  go_wp2
  go_ret
  exact ⟨rfl, lb_trans (lb_trans (lb_trans (lb_trans (lb_trans (lb_alloc HB2.out _) hb3) (lb_alloc (Below.refl _ _) _)) hb4) hb5) hb6⟩

end Go.Proofs.YtblmcphmgicocaaDoor
