/-
  A bag of images: their lists are put into it, and lie apart. Two lists of numbers compared, by the document's helpers: true just if they are one list; the first is at most 2^20 long. Two lists of symbols, of relocations compared, by the document's helpers: true just if they are one list; the first is at most 2^20 long. An object compared with one that is the same, by the document's helper: true; the lists are at most 2^20 long.
-/
import Derived.Test.YtfaekkbblpfbhaaDoorProg
import Derived.WalkKit
import Derived.WalkSpells
import Derived.WalkLawsBesides
import Derived.RowKit3
import Derived.Below
import Derived.Deep.QuietTactic
import Derived.BigQuiet
import Derived.WalkSmall
import Derived.Laws.Rows
import Derived.Test.YtfaekkbblpfbhaaDoorIr38
import Derived.Test.YtfaekkbblpfbhaaDoorIr28
import Derived.Test.YtfaekkbblpfbhaaDoorIr39
import Derived.Test.YtfaekkbblpfbhaaDoorIr08
import Derived.Test.YtfaekkbblpfbhaaDoorIr09
import Derived.Test.YtfaekkbblpfbhaaDoorIr01
namespace Go.Proofs.YtfaekkbblpfbhaaDoor
open Go.RowKit

/-- What an added list leaves of a row of another kind. -/
theorem added_row {n B K : Nat} {TS : TypeId} {f : Nat → Value} {l : List Value} {v : Value} {w w' : World} {r : Ending} (h : Added n B K TS f l v w r w') (hb : BagIs w B f) (hK : w.ownsRow n TS 1 (f K) l.length l) {base : Nat} {e : TypeId} {size : Nat} {u : Value} {m : Nat} {xs : List Value} (hu : w.ownsRow base e size u m xs) (he : e ≠ TS) (h56 : e ≠ 56) : w'.ownsRow base e size u m xs := by
  obtain ⟨-, V, -, -, -, h4⟩ := h
  refine own_same hu fun b hub => h4 b (own_lt hu hub) (fun e2 => hb.off hu h56 (e2 ▸ hub)) fun e2 => ?_
  obtain ⟨c1, q1⟩ := own_block hu hub
  obtain ⟨c2, q2⟩ := own_block hK e2
  rw [q1] at q2
  simp only [Option.some.injEq, Obj.cells.injEq] at q2
  exact he q2.2.1
theorem added_box {n B K : Nat} {TS : TypeId} {f : Nat → Value} {l : List Value} {v : Value} {w w' : World} {r : Ending} (h : Added n B K TS f l v w r w') (hb : BagIs w B f) (hK : w.ownsRow n TS 1 (f K) l.length l) {p : Nat} {cs : Array Value} {t : TypeId} (hp : w.heap[p]? = some (.cells cs t (0, 0))) (he : t ≠ TS) (h56 : t ≠ 56) : w'.heap[p]? = some (.cells cs t (0, 0)) := by
  obtain ⟨-, V, -, -, -, h4⟩ := h
  rw [h4 p (Array.getElem?_eq_some_iff.1 hp).1 (fun e2 => ?_) (fun e2 => ?_)]
  · exact hp
  · obtain ⟨c, q, -⟩ := hb
    subst e2
    rw [hp] at q
    simp only [Option.some.injEq, Obj.cells.injEq] at q
    exact h56 q.2.1
  · obtain ⟨c2, q2⟩ := own_block hK e2
    rw [hp] at q2
    simp only [Option.some.injEq, Obj.cells.injEq] at q2
    exact he q2.2.1

/-- A bag with lists of two kinds. -/
structure BagT (n B : Nat) (f : Nat → Value) (w : World) (l4 l5 : List Value) : Prop where
  bag : BagIs w B f
  r4 : w.ownsRow n 23 1 (f 4) l4.length l4
  r5 : w.ownsRow n 22 1 (f 5) l5.length l5
theorem BagT.alloc {n B : Nat} {f : Nat → Value} {w : World} {l4 l5 : List Value} (h : BagT n B f w l4 l5) (o : Obj) : BagT n B f (w.alloc o) l4 l5 :=
  ⟨h.bag.keep (Below.heap_alloc w o B h.bag.lt), h.r4.alloc o, h.r5.alloc o⟩
theorem BagT.words {n B : Nat} {f : Nat → Value} {w w' : World} {l4 l5 : List Value} {v : Value} {r : Ending} (h : BagT n B f w l4 l5) (hr : Added n B 5 22 f l5 v w r w') : ∃ V, r = .returned (.tuple #[]) ∧ BagT n B (upd f 5 V) w' l4 (l5 ++ [v]) ∧ Below n w w' := by
  obtain ⟨rfl, V, hg, ho, hbl, hbo⟩ := hr
  exact ⟨V, rfl, ⟨hg, added_row ⟨rfl, V, hg, ho, hbl, hbo⟩ h.bag h.r5 h.r4 (by decide) (by decide), by rw [List.length_append]; exact ho⟩, hbl⟩
theorem BagT.longs {n B : Nat} {f : Nat → Value} {w w' : World} {l4 l5 : List Value} {v : Value} {r : Ending} (h : BagT n B f w l4 l5) (hr : Added n B 4 23 f l4 v w r w') : ∃ V, r = .returned (.tuple #[]) ∧ BagT n B (upd f 4 V) w' (l4 ++ [v]) l5 ∧ Below n w w' := by
  obtain ⟨rfl, V, hg, ho, hbl, hbo⟩ := hr
  exact ⟨V, rfl, ⟨hg, by rw [List.length_append]; exact ho, added_row ⟨rfl, V, hg, ho, hbl, hbo⟩ h.bag h.r4 h.r5 (by decide) (by decide)⟩, hbl⟩
/-- The lists of an image were put into a bag. -/
def AddedI (n B : Nat) (f : Nat → Value) (l4 l5 : List Value) (v4 v5 : Value) (w : World) (r : Ending) (w' : World) : Prop :=
  r = .returned (.tuple #[]) ∧ ∃ f', BagT n B f' w' (l4 ++ [v4]) (l5 ++ [v5]) ∧ (∀ k, k ≠ 4 → k ≠ 5 → f' k = f k) ∧ Below n w w'
set_option maxRecDepth 100000 in
set_option maxHeartbeats 1000000 in
theorem addimg_any (n B : Nat) (f : Nat → Value) (l4 l5 : List Value) (ent : Int) (A1 A2 : Option Addr) (n1 n2 c1 c2 : Nat) (w : World) (hn : n ≤ B) (hb : BagT n B f w l4 l5) (e4 : l4.length < 300) (e5 : l5.length < 300) :
    Calls Tryd.prog 24 #[.pointer (some ⟨B, 0, none⟩), .agg #[.slice A1 n1 c1, .int .i64 ent, .slice A2 n2 c2]] w (AddedI n B f l4 l5 (.slice A2 n2 c2) (.slice A1 n1 c1) w) := by
  have hlt := hb.bag.lt
  have hba : Hid _ := hb.alloc (.cells #[.slice A1 n1 c1, .int .i64 ent, .slice A2 n2 c2] 25)
  have hbx : Hid ((w.alloc (.cells #[.slice A1 n1 c1, .int .i64 ent, .slice A2 n2 c2] 25)).heap[w.heap.size]? = some (.cells #[.slice A1 n1 c1, .int .i64 ent, .slice A2 n2 c2] 25 (0, 0))) := heap_alloc_new _ _
  have hB0 : Hid (Below n w (w.alloc (.cells #[.slice A1 n1 c1, .int .i64 ent, .slice A2 n2 c2] 25))) := (Below.refl n w).alloc (by omega) _
  clear hb hlt
  go_enter Tryd.func24, Tryd.ntmps24
  go_wp2_with fail
  refine (addwords_any n B _ l5 A1 n1 c1 _ hn hba.out.bag hba.out.r5 e5).mono ?_
  intro r w1 hr
  have hbx1 : Hid _ := added_box hr hba.out.bag hba.out.r5 hbx.out (by decide) (by decide)
  obtain ⟨V5, rfl, hg, hbl⟩ := hba.out.words hr
  have hb1 : Hid _ := hg
  have hB1 : Hid (Below n w w1) := Below.trans hB0.out hbl
  clear hg hbl hr hba hbx hB0
  obtain ⟨d0, d1, d2⟩ := box3_cell hbx1.out
  go_wp2_with fail
  refine (addlongs_any n B _ l4 A2 n2 c2 _ hn hb1.out.bag hb1.out.r4 e4).mono ?_
  intro r w2 hr
  obtain ⟨V4, rfl, hg, hbl⟩ := hb1.out.longs hr
  have hb2 : Hid _ := hg
  have hB2 : Hid (Below n w w2) := Below.trans hB1.out hbl
  clear hg hbl hr d0 d1 d2 hb1 hbx1 hB1
  go_wp2
  go_end0
  exact ⟨rfl, _, hb2.out, fun k k4 k5 => by simp [upd, k4, k5], hB2.out⟩
theorem apartI (B : Nat) (f : Nat → Value) (r4 r5 : List (Value × Nat)) (w1 : World) (hb : BagIs w1 B f) (h4 : w1.ownsRow 0 23 1 (f 4) r4.length (r4.map Prod.fst)) (h5 : w1.ownsRow 0 22 1 (f 5) r5.length (r5.map Prod.fst))
    (hnil : ∀ k, k < 17 → k ≠ 4 → k ≠ 5 → f k = .slice none 0 0) (hf : Four w1 r4 r5 [] []) (S4 : Sep r4) (S5 : Sep r5) (N4 : r4.length ≤ 300) (N5 : r5.length ≤ 300) (L4 : ∀ m, rl r4 m ≤ 1048576) (L5 : ∀ m, rl r5 m ≤ 1048576) :
    Calls Tryd.prog 17 #[.pointer (some ⟨B, 0, none⟩)] w1 fun r w' => r = .returned (.bool true) ∧ FrB (Pk r4 r5 [] [] 17) w1 w' := by
  refine (apart_any B (fun k w => FrB (Pk r4 r5 [] [] k) w1 w) ?_ w1 (FrB.refl _ w1)).mono fun r w' h => h
  intro k hk w hF
  have hq : k = 0 ∨ k = 1 ∨ k = 2 ∨ k = 3 ∨ k = 4 ∨ k = 5 ∨ k = 6 ∨ k = 7 ∨ k = 8 ∨ k = 9 ∨ k = 10 ∨ k = 11 ∨ k = 12 ∨ k = 13 ∨ k = 14 ∨ k = 15 ∨ k = 16 := by omega
  rcases hq with rfl | rfl | rfl | rfl | rfl | rfl | rfl | rfl | rfl | rfl | rfl | rfl | rfl | rfl | rfl | rfl | rfl
  · exact (none_42 B w (by rw [(hF.bag hf hb).cell 0 (by omega), hnil 0 (by omega) (by omega) (by omega)])).mono fun r w' h => ⟨h.1, by rw [h.2]; exact hF.next (Fr.refl [] w) (fun b h => by obtain ⟨m, hm, _⟩ := h; simp at hm)⟩
  · exact (none_43 B w (by rw [(hF.bag hf hb).cell 1 (by omega), hnil 1 (by omega) (by omega) (by omega)])).mono fun r w' h => ⟨h.1, by rw [h.2]; exact hF.next (Fr.refl [] w) (fun b h => by obtain ⟨m, hm, _⟩ := h; simp at hm)⟩
  · exact (none_44 B w (by rw [(hF.bag hf hb).cell 2 (by omega), hnil 2 (by omega) (by omega) (by omega)])).mono fun r w' h => ⟨h.1, by rw [h.2]; exact hF.next (Fr.refl [] w) (fun b h => by obtain ⟨m, hm, _⟩ := h; simp at hm)⟩
  · exact (none_45 B w (by rw [(hF.bag hf hb).cell 3 (by omega), hnil 3 (by omega) (by omega) (by omega)])).mono fun r w' h => ⟨h.1, by rw [h.2]; exact hF.next (Fr.refl [] w) (fun b h => by obtain ⟨m, hm, _⟩ := h; simp at hm)⟩
  · have hbw := hF.bag hf hb
    have hv := hF.own hf h4 (by decide)
    obtain ⟨A, c, e, -⟩ := own_any hv
    have hc := hbw.cell 4 (by omega)
    rw [e] at hc hv
    exact (apartlongs_any B A c r4 w hc hv (fun m hm => (hf.k4 m hm).imp fun xs hx => hF.own hf hx (by decide)) S4 (fun m hm => (hf.k4 m hm).elim fun xs hx => hbw.off (hF.own hf hx (by decide)) (by decide)) N4 L4).mono fun r w' h => ⟨h.1, hF.next h.2 fun b h => .inl ⟨by omega, h⟩⟩
  · have hbw := hF.bag hf hb
    have hv := hF.own hf h5 (by decide)
    obtain ⟨A, c, e, -⟩ := own_any hv
    have hc := hbw.cell 5 (by omega)
    rw [e] at hc hv
    exact (apartwords_any B A c r5 w hc hv (fun m hm => (hf.k5 m hm).imp fun xs hx => hF.own hf hx (by decide)) S5 (fun m hm => (hf.k5 m hm).elim fun xs hx => hbw.off (hF.own hf hx (by decide)) (by decide)) N5 L5).mono fun r w' h => ⟨h.1, hF.next h.2 fun b h => .inr (.inl ⟨by omega, h⟩)⟩
  · exact (none_48 B w (by rw [(hF.bag hf hb).cell 6 (by omega), hnil 6 (by omega) (by omega) (by omega)])).mono fun r w' h => ⟨h.1, by rw [h.2]; exact hF.next (Fr.refl [] w) (fun b h => by obtain ⟨m, hm, _⟩ := h; simp at hm)⟩
  · exact (none_49 B w (by rw [(hF.bag hf hb).cell 7 (by omega), hnil 7 (by omega) (by omega) (by omega)])).mono fun r w' h => ⟨h.1, by rw [h.2]; exact hF.next (Fr.refl [] w) (fun b h => by obtain ⟨m, hm, _⟩ := h; simp at hm)⟩
  · exact (none_50 B w (by rw [(hF.bag hf hb).cell 8 (by omega), hnil 8 (by omega) (by omega) (by omega)])).mono fun r w' h => ⟨h.1, by rw [h.2]; exact hF.next (Fr.refl [] w) (fun b h => by obtain ⟨m, hm, _⟩ := h; simp at hm)⟩
  · exact (none_51 B w (by rw [(hF.bag hf hb).cell 9 (by omega), hnil 9 (by omega) (by omega) (by omega)])).mono fun r w' h => ⟨h.1, by rw [h.2]; exact hF.next (Fr.refl [] w) (fun b h => by obtain ⟨m, hm, _⟩ := h; simp at hm)⟩
  · exact (none_52 B w (by rw [(hF.bag hf hb).cell 10 (by omega), hnil 10 (by omega) (by omega) (by omega)])).mono fun r w' h => ⟨h.1, by rw [h.2]; exact hF.next (Fr.refl [] w) (fun b h => by obtain ⟨m, hm, _⟩ := h; simp at hm)⟩
  · exact (none_53 B w (by rw [(hF.bag hf hb).cell 11 (by omega), hnil 11 (by omega) (by omega) (by omega)])).mono fun r w' h => ⟨h.1, by rw [h.2]; exact hF.next (Fr.refl [] w) (fun b h => by obtain ⟨m, hm, _⟩ := h; simp at hm)⟩
  · exact (none_54 B w (by rw [(hF.bag hf hb).cell 12 (by omega), hnil 12 (by omega) (by omega) (by omega)])).mono fun r w' h => ⟨h.1, by rw [h.2]; exact hF.next (Fr.refl [] w) (fun b h => by obtain ⟨m, hm, _⟩ := h; simp at hm)⟩
  · exact (none_55 B w (by rw [(hF.bag hf hb).cell 13 (by omega), hnil 13 (by omega) (by omega) (by omega)])).mono fun r w' h => ⟨h.1, by rw [h.2]; exact hF.next (Fr.refl [] w) (fun b h => by obtain ⟨m, hm, _⟩ := h; simp at hm)⟩
  · exact (none_56 B w (by rw [(hF.bag hf hb).cell 14 (by omega), hnil 14 (by omega) (by omega) (by omega)])).mono fun r w' h => ⟨h.1, by rw [h.2]; exact hF.next (Fr.refl [] w) (fun b h => by obtain ⟨m, hm, _⟩ := h; simp at hm)⟩
  · exact (none_57 B w (by rw [(hF.bag hf hb).cell 15 (by omega), hnil 15 (by omega) (by omega) (by omega)])).mono fun r w' h => ⟨h.1, by rw [h.2]; exact hF.next (Fr.refl [] w) (fun b h => by obtain ⟨m, hm, _⟩ := h; simp at hm)⟩
  · exact (none_58 B w (by rw [(hF.bag hf hb).cell 16 (by omega), hnil 16 (by omega) (by omega) (by omega)])).mono fun r w' h => ⟨h.1, by rw [h.2]; exact hF.next (Fr.refl [] w) (fun b h => by obtain ⟨m, hm, _⟩ := h; simp at hm)⟩

end Go.Proofs.YtfaekkbblpfbhaaDoor

namespace Go.Proofs.YtfaekkbblpfbhaaDoor
open Go.RowKit

set_option maxRecDepth 100000 in
set_option maxHeartbeats 1000000 in
theorem eqwords_any (A B : Option Addr) (ca cb : Nat) (zs ys : List Int) (w : World) (hA : IntsAt w A .u32 zs) (hB : IntsAt w B .u32 ys) (hz : zs.length ≤ 1048576) :
    Calls Tryd.prog 38 #[.slice A zs.length ca, .slice B ys.length cb] w fun e w' => e = .returned (.bool (decide (zs = ys))) ∧ Below w.heap.size w w' := by
  by_cases hl : zs.length = ys.length
  · have hl' : ((zs.length : Int) == (ys.length : Int)) = true := by rw [hl]; simp
    have HL : Hid (zs.length = ys.length) := hl
    clear hl
    go_enter Tryd.func38, Tryd.ntmps38
    go_wp2
    go_loopw [5] (fun i wr => ∃ (k m : Nat), i = .int .i64 k ∧ k ≤ zs.length ∧ wr = w.drewN m ∧ Hid (zs.take k = ys.take k)) (fun i _ => zs.length - (intOf i).toNat)
    case atStart => exact ⟨0, 0, rfl, by omega, rfl, by simp [Hid]⟩
    case round =>
      obtain ⟨k, m, rfl, hk, rfl, HT⟩ := hrel
      by_cases hlt : k < zs.length
      · obtain ⟨a, rfl, c1⟩ := hA k hlt
        obtain ⟨b, rfl, c2⟩ := hB k (by have := HL.out; omega)
        have hlt2 : (k : Int) < (ys.length : Int) := by have := HL.out; omega
        by_cases he : nth zs k = nth ys k
        · have HE : Hid (nth zs k = nth ys k) := he
          have he' : (nth zs k == nth ys k) = true := by simpa using he
          clear he
          go_wp2_with fail
          go_quiet (fail)
          go_wp2
          go_roundw
          case rel => exact ⟨k + 1, _, by go_num, by omega, rfl, take_same HT.out hlt (by omega) HE.out⟩
          case measure => simp [intOf]; omega
        · have HE : Hid (¬ nth zs k = nth ys k) := he
          have he' : (nth zs k == nth ys k) = false := by simpa using he
          clear he
          go_wp2_with fail
          go_quiet (fail)
          go_wp2
          go_ret
          exact ⟨retB (decide_eq_false (nth_ne HE.out)).symm, below_drewN (below_drewN (Below.refl _ _) _) _⟩
      · go_wp2
        go_ret
        exact ⟨retB (decide_eq_true (take_all HT.out (by omega) HL.out)).symm, below_drewN (Below.refl _ _) _⟩
  · have hl' : ((zs.length : Int) == (ys.length : Int)) = false := by simp; omega
    have HL : Hid (¬ zs.length = ys.length) := hl
    clear hl
    go_enter Tryd.func38, Tryd.ntmps38
    go_wp2
    go_ret
    exact ⟨retB (decide_eq_false (fun h => HL.out (by rw [h]))).symm, Below.refl _ _⟩

set_option maxRecDepth 100000 in
set_option maxHeartbeats 1000000 in
theorem eqlongs_any (A B : Option Addr) (ca cb : Nat) (zs ys : List Int) (w : World) (hA : IntsAt w A .i64 zs) (hB : IntsAt w B .i64 ys) (hz : zs.length ≤ 1048576) :
    Calls Tryd.prog 39 #[.slice A zs.length ca, .slice B ys.length cb] w fun e w' => e = .returned (.bool (decide (zs = ys))) ∧ Below w.heap.size w w' := by
  by_cases hl : zs.length = ys.length
  · have hl' : ((zs.length : Int) == (ys.length : Int)) = true := by rw [hl]; simp
    have HL : Hid (zs.length = ys.length) := hl
    clear hl
    go_enter Tryd.func39, Tryd.ntmps39
    go_wp2
    go_loopw [5] (fun i wr => ∃ (k m : Nat), i = .int .i64 k ∧ k ≤ zs.length ∧ wr = w.drewN m ∧ Hid (zs.take k = ys.take k)) (fun i _ => zs.length - (intOf i).toNat)
    case atStart => exact ⟨0, 0, rfl, by omega, rfl, by simp [Hid]⟩
    case round =>
      obtain ⟨k, m, rfl, hk, rfl, HT⟩ := hrel
      by_cases hlt : k < zs.length
      · obtain ⟨a, rfl, c1⟩ := hA k hlt
        obtain ⟨b, rfl, c2⟩ := hB k (by have := HL.out; omega)
        have hlt2 : (k : Int) < (ys.length : Int) := by have := HL.out; omega
        by_cases he : nth zs k = nth ys k
        · have HE : Hid (nth zs k = nth ys k) := he
          have he' : (nth zs k == nth ys k) = true := by simpa using he
          clear he
          go_wp2_with fail
          go_quiet (fail)
          go_wp2
          go_roundw
          case rel => exact ⟨k + 1, _, by go_num, by omega, rfl, take_same HT.out hlt (by omega) HE.out⟩
          case measure => simp [intOf]; omega
        · have HE : Hid (¬ nth zs k = nth ys k) := he
          have he' : (nth zs k == nth ys k) = false := by simpa using he
          clear he
          go_wp2_with fail
          go_quiet (fail)
          go_wp2
          go_ret
          exact ⟨retB (decide_eq_false (nth_ne HE.out)).symm, below_drewN (below_drewN (Below.refl _ _) _) _⟩
      · go_wp2
        go_ret
        exact ⟨retB (decide_eq_true (take_all HT.out (by omega) HL.out)).symm, below_drewN (Below.refl _ _) _⟩
  · have hl' : ((zs.length : Int) == (ys.length : Int)) = false := by simp; omega
    have HL : Hid (¬ zs.length = ys.length) := hl
    clear hl
    go_enter Tryd.func39, Tryd.ntmps39
    go_wp2
    go_ret
    exact ⟨retB (decide_eq_false (fun h => HL.out (by rw [h]))).symm, Below.refl _ _⟩

end Go.Proofs.YtfaekkbblpfbhaaDoor
