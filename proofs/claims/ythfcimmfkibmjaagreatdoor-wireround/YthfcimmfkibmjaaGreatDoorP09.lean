/-
  The program writes lists of numbers into an output; what is written is at most 2^20 bytes. The program writes lists of symbols and relocations into an output; what is written is at most 2^20 bytes. The program writes a whole object into an output; what is written is at most 2^20 bytes. The document adds bytes up; they are at most 2^20.
-/
import Derived.Test.YthfcimmfkibmjaaGreatDoorProg
import Derived.WalkKit
import Derived.WalkSpells
import Derived.WalkLawsBesides
import Derived.RowKit3
import Derived.Below
import Derived.Deep.QuietTactic
import Derived.BigQuiet
import Derived.WalkSmall
import Derived.Laws.Rows
import Derived.Test.YthfcimmfkibmjaaGreatDoorP07
import Derived.Deep.DeepCutAuto
import Derived.Test.YthfcimmfkibmjaaGreatDoorP02
namespace Go.Proofs.YthfcimmfkibmjaaGreatDoor
open Go.RowKit


theorem IntsAt.under {g : Nat} {w0 w w1 : World} {A : Option Addr} {K : IntKind} {zs : List Int} (h : IntsAt w0 A K zs) (hb : Below w0.heap.size w0 w) (hg : w0.heap.size ≤ g) (hb1 : Below g w w1) : IntsAt w1 A K zs := h.keep (hb.trans (hb1.mono hg))
theorem SymsAt.under {g : Nat} {w0 w w1 : World} {A : Option Addr} {zs : List Sym} (h : SymsAt w0 A zs) (hb : Below w0.heap.size w0 w) (hg : w0.heap.size ≤ g) (hb1 : Below g w w1) : SymsAt w1 A zs := h.keep (hb.trans (hb1.mono hg))
theorem RelsAt.under {g : Nat} {w0 w w1 : World} {A : Option Addr} {zs : List Rel} (h : RelsAt w0 A zs) (hb : Below w0.heap.size w0 w) (hg : w0.heap.size ≤ g) (hb1 : Below g w w1) : RelsAt w1 A zs := h.keep (hb.trans (hb1.mono hg))
theorem flat_snoc {α : Type} (f : α → List Int) (zs : List α) (z : α) (k : Nat) (h : k < zs.length) : (zs.take (k + 1)).flatMap f = (zs.take k).flatMap f ++ f (zs.getD k z) := by
  rw [List.take_succ_eq_append_getElem h, List.flatMap_append]
  simp [List.getD, h]
theorem flat_len {α : Type} (f : α → List Int) (m : Nat) (hf : ∀ x, (f x).length = m) (zs : List α) : (zs.flatMap f).length = zs.length * m := by
  induction zs with
  | nil => simp
  | cons z zs ih => simp [hf, ih, Nat.succ_mul, Nat.add_comm]

set_option maxRecDepth 100000 in
set_option maxHeartbeats 1000000 in
theorem wWords (g : Nat) (l : List Int) (A : Option Addr) (c : Nat) (zs : List Int) (w0 w : World) (hC : IntsAt w0 A .u32 zs) (hb0 : Below w0.heap.size w0 w) (hg0 : w0.heap.size ≤ g) (hR0 : ∀ i, i < zs.length → 0 ≤ nth zs i ∧ nth zs i < 4294967296) (hl : l.length + 4 + zs.length * 4 ≤ 1048576) (ho : OutAt w g l) :
    Calls Tryz.prog 79 #[.pointer (some ⟨g, 0, none⟩), .slice A zs.length c, .func (.func 30) #[.pointer (some ⟨g, 0, none⟩)] #[]] w (Puts g l (be4 zs.length ++ zs.flatMap be4) w) := by
  have hg := ho.lt
  go_enter Tryz.func79, Tryz.ntmps79
  go_wp2_with fail
  refine (wCount g l (zs.length : Int) (by omega) _ ho).mono ?_
  rintro r w1 ⟨rfl, h1, h2⟩
  have H2 : Hid _ := h2
  have H1 : Hid _ := h1
  clear h1 h2 ho
  go_wp2
  go_loopw [14] (fun i wr => ∃ k : Nat, i = .int .i64 k ∧ k ≤ zs.length ∧ OutAt wr g (l ++ be4 zs.length ++ (zs.take k).flatMap be4) ∧ OutTo g w wr) (fun i _ => zs.length - (intOf i).toNat)
  case atStart => exact ⟨0, rfl, Nat.zero_le _, by show OutAt _ _ (_ ++ []); rw [List.append_nil]; exact H1.out, H2.out⟩
  case round =>
    obtain ⟨k, rfl, hk, ho, ht⟩ := hrel
    by_cases hlt : k < zs.length
    · obtain ⟨a, rfl, hc⟩ := (hC.under hb0 hg0 (ht.below hg)) k hlt
      have hlen : (l ++ be4 zs.length ++ (zs.take k).flatMap be4).length + 4 ≤ 1048576 := by
        rw [List.length_append, len_app4, flat_len be4 4 (fun _ => rfl), List.length_take]
        have : min k zs.length * 4 + 4 ≤ zs.length * 4 := by
          rw [Nat.min_eq_left hk]; omega
        omega
      have HF : Hid _ := flat_snoc be4 zs 0 k hlt
      have hR := hR0 k hlt
      have HT : Hid _ := ht
      clear ht
      go_wp2_with fail
      refine (wNumber g _ (nth zs k) hR.1 hR.2 hlen _ ho).mono ?_
      rintro r w2 ⟨rfl, h3, h4⟩
      have H3 : Hid _ := h3
      have H4 : Hid _ := h4
      clear h3 h4 ho
      go_wp2
      go_roundw
      case rel => exact ⟨k + 1, by go_num, by omega, by rw [HF.out, ← List.append_assoc]; exact H3.out, HT.out.trans H4.out⟩
      case measure => simp [intOf]; omega
    · go_wp2
      go_end0
      rw [List.take_of_length_le (by omega)] at ho
      exact ⟨rfl, by rw [← List.append_assoc]; exact ho, ht⟩

set_option maxRecDepth 100000 in
set_option maxHeartbeats 1000000 in
theorem wLongs (g : Nat) (l : List Int) (A : Option Addr) (c : Nat) (zs : List Int) (w0 w : World) (hC : IntsAt w0 A .i64 zs) (hb0 : Below w0.heap.size w0 w) (hg0 : w0.heap.size ≤ g) (hl : l.length + 4 + zs.length * 8 ≤ 1048576) (ho : OutAt w g l) :
    Calls Tryz.prog 81 #[.pointer (some ⟨g, 0, none⟩), .slice A zs.length c, .func (.func 82) #[.pointer (some ⟨g, 0, none⟩)] #[]] w (Puts g l (be4 zs.length ++ zs.flatMap be8) w) := by
  have hg := ho.lt
  go_enter Tryz.func81, Tryz.ntmps81
  go_wp2_with fail
  refine (wCount g l (zs.length : Int) (by omega) _ ho).mono ?_
  rintro r w1 ⟨rfl, h1, h2⟩
  have H2 : Hid _ := h2
  have H1 : Hid _ := h1
  clear h1 h2 ho
  go_wp2
  go_loopw [14] (fun i wr => ∃ k : Nat, i = .int .i64 k ∧ k ≤ zs.length ∧ OutAt wr g (l ++ be4 zs.length ++ (zs.take k).flatMap be8) ∧ OutTo g w wr) (fun i _ => zs.length - (intOf i).toNat)
  case atStart => exact ⟨0, rfl, Nat.zero_le _, by show OutAt _ _ (_ ++ []); rw [List.append_nil]; exact H1.out, H2.out⟩
  case round =>
    obtain ⟨k, rfl, hk, ho, ht⟩ := hrel
    by_cases hlt : k < zs.length
    · obtain ⟨a, rfl, hc⟩ := (hC.under hb0 hg0 (ht.below hg)) k hlt
      have hlen : (l ++ be4 zs.length ++ (zs.take k).flatMap be8).length + 8 ≤ 1048576 := by
        rw [List.length_append, len_app4, flat_len be8 8 (fun _ => rfl), List.length_take]
        have : min k zs.length * 8 + 8 ≤ zs.length * 8 := by
          rw [Nat.min_eq_left hk]; omega
        omega
      have HF : Hid _ := flat_snoc be8 zs 0 k hlt
      have HT : Hid _ := ht
      clear ht
      go_wp2_with fail
      refine (wLong g _ (nth zs k)  hlen _ ho).mono ?_
      rintro r w2 ⟨rfl, h3, h4⟩
      have H3 : Hid _ := h3
      have H4 : Hid _ := h4
      clear h3 h4 ho
      go_wp2
      go_roundw
      case rel => exact ⟨k + 1, by go_num, by omega, by rw [HF.out, ← List.append_assoc]; exact H3.out, HT.out.trans H4.out⟩
      case measure => simp [intOf]; omega
    · go_wp2
      go_end0
      rw [List.take_of_length_le (by omega)] at ho
      exact ⟨rfl, by rw [← List.append_assoc]; exact ho, ht⟩

end Go.Proofs.YthfcimmfkibmjaaGreatDoor

namespace Go.Proofs.YthfcimmfkibmjaaGreatDoor
open Go.RowKit


theorem flat_take_le {α : Type} (f : α → List Int) (zs : List α) (k : Nat) : ((zs.take k).flatMap f).length ≤ (zs.flatMap f).length := by
  conv => rhs; rw [← List.take_append_drop k zs, List.flatMap_append, List.length_append]
  omega

set_option maxRecDepth 100000 in
set_option maxHeartbeats 1000000 in
theorem wSyms (g : Nat) (l : List Int) (A : Option Addr) (c : Nat) (zs : List Sym) (w0 w : World) (hC : SymsAt w0 A zs) (hb0 : Below w0.heap.size w0 w) (hg0 : w0.heap.size ≤ g) (hK : ∀ i, i < zs.length → 0 ≤ sKind zs i ∧ sKind zs i < 128) (hn : zs.length ≤ 1048576) (hl : l.length + 4 + (zs.flatMap symB).length ≤ 1048576) (ho : OutAt w g l) :
    Calls Tryz.prog 83 #[.pointer (some ⟨g, 0, none⟩), .slice A zs.length c, .func (.func 84) #[.pointer (some ⟨g, 0, none⟩)] #[]] w (Puts g l (be4 zs.length ++ zs.flatMap symB) w) := by
  have hg := ho.lt
  go_enter Tryz.func83, Tryz.ntmps83
  go_wp2_with fail
  refine (wCount g l (zs.length : Int) (by omega) _ ho).mono ?_
  rintro r w1 ⟨rfl, h1, h2⟩
  have H2 : Hid _ := h2
  have H1 : Hid _ := h1
  clear h1 h2 ho
  go_wp2
  go_loopw [14] (fun i wr => ∃ k : Nat, i = .int .i64 k ∧ k ≤ zs.length ∧ OutAt wr g (l ++ be4 zs.length ++ (zs.take k).flatMap symB) ∧ OutTo g w wr) (fun i _ => zs.length - (intOf i).toNat)
  case atStart => exact ⟨0, rfl, Nat.zero_le _, by show OutAt _ _ (_ ++ []); rw [List.append_nil]; exact H1.out, H2.out⟩
  case round =>
    obtain ⟨k, rfl, hk, ho, ht⟩ := hrel
    by_cases hlt : k < zs.length
    · obtain ⟨a, rfl, c0, c1, c2⟩ := (hC.under hb0 hg0 (ht.below hg)) k hlt
      have d1 : _ = some (Value.int .i8 (sKind zs k)) := show World.cell? _ ⟨(a.add (k * 3)).block, (a.add (k * 3)).off + 1, none⟩ = _ from c1
      have d2 : _ = some (Value.int .i64 (sAt zs k)) := show World.cell? _ ⟨(a.add (k * 3)).block, (a.add (k * 3)).off + 2, none⟩ = _ from c2
      have HF : Hid ((zs.take (k + 1)).flatMap symB = (zs.take k).flatMap symB ++ symB ((sName zs k, sKind zs k, sAt zs k))) := flat_snoc symB zs symD k hlt
      have hlen : (l ++ be4 zs.length ++ (zs.take k).flatMap symB).length + (symB ((sName zs k, sKind zs k, sAt zs k))).length ≤ 1048576 := by
        have h5 := congrArg List.length HF.out
        have h6 := flat_take_le symB zs (k + 1)
        rw [List.length_append] at h5
        rw [List.length_append, len_app4]
        omega
      have hl2 : (symB (sName zs k, sKind zs k, sAt zs k)).length = (sName zs k).size + 12 := by unfold symB textB; simp [be4_len, strB_size]; omega
      have hk2 := hK k hlt
      have HT : Hid _ := ht
      have HO : Hid (OutAt wr g (l ++ be4 zs.length ++ (zs.take k).flatMap symB)) := ho
      clear ht ho
      go_wp2_with fail
      refine (wSymbol g (l ++ be4 zs.length ++ (zs.take k).flatMap symB) (sName zs k) (sKind zs k) (sAt zs k) (by omega) hk2 _ ?ho).mono ?_
      case ho => exact OutAt.keep HO.out (lb_alloc (Below.refl _ _) _)
      rintro r w2 ⟨rfl, h3, h4⟩
      have H3 : Hid _ := h3
      have H4 : Hid _ := h4
      clear h3 h4
      go_wp2
      go_roundw
      case rel => exact ⟨k + 1, by go_num, by omega, by rw [HF.out, ← List.append_assoc]; exact H3.out, HT.out.trans ((OutTo.of (lb_alloc (Below.refl _ _) _)).trans H4.out)⟩
      case measure => simp [intOf]; omega
    · go_wp2
      go_end0
      rw [List.take_of_length_le (by omega)] at ho
      exact ⟨rfl, by rw [← List.append_assoc]; exact ho, ht⟩

set_option maxRecDepth 100000 in
set_option maxHeartbeats 1000000 in
theorem wRels (g : Nat) (l : List Int) (A : Option Addr) (c : Nat) (zs : List Rel) (w0 w : World) (hC : RelsAt w0 A zs) (hb0 : Below w0.heap.size w0 w) (hg0 : w0.heap.size ≤ g) (hn : zs.length ≤ 1048576) (hl : l.length + 4 + (zs.flatMap relB).length ≤ 1048576) (ho : OutAt w g l) :
    Calls Tryz.prog 85 #[.pointer (some ⟨g, 0, none⟩), .slice A zs.length c, .func (.func 86) #[.pointer (some ⟨g, 0, none⟩)] #[]] w (Puts g l (be4 zs.length ++ zs.flatMap relB) w) := by
  have hg := ho.lt
  go_enter Tryz.func85, Tryz.ntmps85
  go_wp2_with fail
  refine (wCount g l (zs.length : Int) (by omega) _ ho).mono ?_
  rintro r w1 ⟨rfl, h1, h2⟩
  have H2 : Hid _ := h2
  have H1 : Hid _ := h1
  clear h1 h2 ho
  go_wp2
  go_loopw [14] (fun i wr => ∃ k : Nat, i = .int .i64 k ∧ k ≤ zs.length ∧ OutAt wr g (l ++ be4 zs.length ++ (zs.take k).flatMap relB) ∧ OutTo g w wr) (fun i _ => zs.length - (intOf i).toNat)
  case atStart => exact ⟨0, rfl, Nat.zero_le _, by show OutAt _ _ (_ ++ []); rw [List.append_nil]; exact H1.out, H2.out⟩
  case round =>
    obtain ⟨k, rfl, hk, ho, ht⟩ := hrel
    by_cases hlt : k < zs.length
    · obtain ⟨a, rfl, c0, c1⟩ := (hC.under hb0 hg0 (ht.below hg)) k hlt
      have d1 : _ = some (Value.int .i64 (rSym zs k)) := show World.cell? _ ⟨(a.add (k * 2)).block, (a.add (k * 2)).off + 1, none⟩ = _ from c1
      have HF : Hid ((zs.take (k + 1)).flatMap relB = (zs.take k).flatMap relB ++ relB ((rAt zs k, rSym zs k))) := flat_snoc relB zs (0, 0) k hlt
      have hlen : (l ++ be4 zs.length ++ (zs.take k).flatMap relB).length + (relB ((rAt zs k, rSym zs k))).length ≤ 1048576 := by
        have h5 := congrArg List.length HF.out
        have h6 := flat_take_le relB zs (k + 1)
        rw [List.length_append] at h5
        rw [List.length_append, len_app4]
        omega
      have hl2 : (relB (rAt zs k, rSym zs k)).length = 8 := rfl
      have HT : Hid _ := ht
      have HO : Hid (OutAt wr g (l ++ be4 zs.length ++ (zs.take k).flatMap relB)) := ho
      clear ht ho
      go_wp2_with fail
      refine (wReloc g (l ++ be4 zs.length ++ (zs.take k).flatMap relB) (rAt zs k) (rSym zs k) (by omega) _ ?ho).mono ?_
      case ho => exact OutAt.keep HO.out (lb_alloc (Below.refl _ _) _)
      rintro r w2 ⟨rfl, h3, h4⟩
      have H3 : Hid _ := h3
      have H4 : Hid _ := h4
      clear h3 h4
      go_wp2
      go_roundw
      case rel => exact ⟨k + 1, by go_num, by omega, by rw [HF.out, ← List.append_assoc]; exact H3.out, HT.out.trans ((OutTo.of (lb_alloc (Below.refl _ _) _)).trans H4.out)⟩
      case measure => simp [intOf]; omega
    · go_wp2
      go_end0
      rw [List.take_of_length_le (by omega)] at ho
      exact ⟨rfl, by rw [← List.append_assoc]; exact ho, ht⟩

end Go.Proofs.YthfcimmfkibmjaaGreatDoor

namespace Go.Proofs.YthfcimmfkibmjaaGreatDoor
open Go.RowKit


theorem box6_cell {w : World} {B : Nat} {x0 x1 x2 x3 x4 x5 : Value} {t : TypeId} (h : w.heap[B]? = some (.cells #[x0, x1, x2, x3, x4, x5] t (0, 0))) : w.cell? ⟨B, 0, none⟩ = some x0 ∧ w.cell? ⟨B, 1, none⟩ = some x1 ∧ w.cell? ⟨B, 2, none⟩ = some x2 ∧ w.cell? ⟨B, 3, none⟩ = some x3 ∧ w.cell? ⟨B, 4, none⟩ = some x4 ∧ w.cell? ⟨B, 5, none⟩ = some x5 := by
  refine ⟨?_, ?_, ?_, ?_, ?_, ?_⟩ <;> simp [World.cell?, h]
theorem be4_le (n : Int) : (be4 n).length = 4 := rfl
/-- An object's parts as bytes, one behind the other. -/
def part1 (nm : ByteArray) : List Int := [80, 76, 79, 49] ++ textB nm
def part2 (nm : ByteArray) (code : List Int) : List Int := part1 nm ++ (be4 code.length ++ code.flatMap be4)
def part3 (nm : ByteArray) (code : List Int) (dA : Int) : List Int := part2 nm code ++ be4 dA
def part4 (nm : ByteArray) (code : List Int) (dA : Int) (data : List Int) : List Int := part3 nm code dA ++ (be4 data.length ++ data.flatMap be8)
def part5 (nm : ByteArray) (code : List Int) (dA : Int) (data : List Int) (ss : List Sym) : List Int := part4 nm code dA data ++ (be4 ss.length ++ ss.flatMap symB)
def part6 (nm : ByteArray) (code : List Int) (dA : Int) (data : List Int) (ss : List Sym) (rs : List Rel) : List Int := part5 nm code dA data ss ++ (be4 rs.length ++ rs.flatMap relB)
theorem part6_body (nm : ByteArray) (code : List Int) (dA : Int) (data : List Int) (ss : List Sym) (rs : List Rel) : part6 nm code dA data ss rs = bodyB nm code dA data ss rs := by
  unfold part6 part5 part4 part3 part2 part1 bodyB
  simp only [List.append_assoc]
theorem part_lens (nm : ByteArray) (code : List Int) (dA : Int) (data : List Int) (ss : List Sym) (rs : List Rel) :
    (part1 nm).length = 8 + nm.size ∧ (part2 nm code).length = 12 + nm.size + code.length * 4 ∧ (part3 nm code dA).length = 16 + nm.size + code.length * 4 ∧ (part4 nm code dA data).length = 20 + nm.size + code.length * 4 + data.length * 8 ∧
    (part5 nm code dA data ss).length = 24 + nm.size + code.length * 4 + data.length * 8 + (ss.flatMap symB).length ∧ (bodyB nm code dA data ss rs).length = 28 + nm.size + code.length * 4 + data.length * 8 + (ss.flatMap symB).length + rs.length * 8 := by
  have h1 : (part1 nm).length = 8 + nm.size := by unfold part1 textB; simp [be4_len, strB_size]; omega
  have h2 : (part2 nm code).length = 12 + nm.size + code.length * 4 := by unfold part2; rw [List.length_append, List.length_append, h1, be4_le, flat_len be4 4 (fun _ => rfl)]; omega
  have h3 : (part3 nm code dA).length = 16 + nm.size + code.length * 4 := by unfold part3; rw [List.length_append, h2, be4_le]; omega
  have h4 : (part4 nm code dA data).length = 20 + nm.size + code.length * 4 + data.length * 8 := by unfold part4; rw [List.length_append, List.length_append, h3, be4_le, flat_len be8 8 (fun _ => rfl)]; omega
  have h5 : (part5 nm code dA data ss).length = 24 + nm.size + code.length * 4 + data.length * 8 + (ss.flatMap symB).length := by unfold part5; rw [List.length_append, List.length_append, h4, be4_le]; omega
  refine ⟨h1, h2, h3, h4, h5, ?_⟩
  rw [← part6_body]
  unfold part6
  rw [List.length_append, List.length_append, h5, be4_le, flat_len relB 8 (fun _ => rfl)]
  omega
set_option maxRecDepth 100000 in
set_option maxHeartbeats 2000000 in
theorem wObject (g : Nat) (nm : ByteArray) (dA : Int) (A1 A2 A3 A4 : Option Addr) (c1 c2 c3 c4 : Nat) (code data : List Int) (ss : List Sym) (rs : List Rel) (w0 w : World)
    (hC : IntsAt w0 A1 .u32 code) (hD : IntsAt w0 A2 .i64 data) (hS : SymsAt w0 A3 ss) (hL : RelsAt w0 A4 rs) (hR : ∀ i, i < code.length → 0 ≤ nth code i ∧ nth code i < 4294967296) (hK : ∀ i, i < ss.length → 0 ≤ sKind ss i ∧ sKind ss i < 128)
    (hb0 : Below w0.heap.size w0 w) (hg0 : w0.heap.size ≤ g) (hl : (bodyB nm code dA data ss rs).length ≤ 1048576) (hn3 : ss.length ≤ 1048576) (hv : w.heap[g]? = some (.cells #[.slice none 0 0] 76 (0, 0))) :
    Calls Tryz.prog 29 #[.pointer (some ⟨g, 0, none⟩), .agg #[.string nm, .slice A1 code.length c1, .int .i64 dA, .slice A2 data.length c2, .slice A3 ss.length c3, .slice A4 rs.length c4]] w (Puts g [] (bodyB nm code dA data ss rs) w) := by
  obtain ⟨i0, hi, hz0, hz1, hz2⟩ := info5
  obtain ⟨p1, p2, p3, p4, p5, p6⟩ := part_lens nm code dA data ss rs
  have hg : g < w.heap.size := (Array.getElem?_eq_some_iff.1 hv).1
  have hB := lb_alloc (Below.refl w.heap.size w) (.cells #[.string nm, .slice A1 code.length c1, .int .i64 dA, .slice A2 data.length c2, .slice A3 ss.length c3, .slice A4 rs.length c4] 27)
  have hv1 : Hid ((w.alloc (.cells #[.string nm, .slice A1 code.length c1, .int .i64 dA, .slice A2 data.length c2, .slice A3 ss.length c3, .slice A4 rs.length c4] 27)).heap[g]? = some (.cells #[.slice none 0 0] 76 (0, 0))) := by
    show _ = _
    rw [hB.block g hg]; exact hv
  have hbx : Hid ((w.alloc (.cells #[.string nm, .slice A1 code.length c1, .int .i64 dA, .slice A2 data.length c2, .slice A3 ss.length c3, .slice A4 rs.length c4] 27)).heap[w.heap.size]? = some (.cells #[.string nm, .slice A1 code.length c1, .int .i64 dA, .slice A2 data.length c2, .slice A3 ss.length c3, .slice A4 rs.length c4] 27 (0, 0))) := heap_alloc_new _ _
  have HB : Hid _ := hB
  clear hB
  have hcell := (box_cell hv).1
  have hfro := (box_cell hv).2
  have hr := World.ownsRow_nil (w.alloc (.cells #[.string nm, .slice A1 code.length c1, .int .i64 dA, .slice A2 data.length c2, .slice A3 ss.length c3, .slice A4 rs.length c4] 27)) (g + 1) 5 1
  have HS4 : Hid ([] ++ Lib.strCells ⟨#[80, 76, 79, 49]⟩ = bNews [80, 76, 79, 49]) := rfl
  clear hv
  go_enter Tryz.func29, Tryz.ntmps29
  go_upto_region 2 with (at_builtin; refine Lib.wpList_append_own_string _ rfl (.tmp 8) _ 31 9 rfl (g + 1) 5 i0 Tryz.underlying31 Tryz.underlying9 hi hz0 hz1 hz2 (.slice none 0 0) 0 [] rfl hr ⟨#[80, 76, 79, 49]⟩ rfl (by unfold maxLen; decide) (by decide) (by simp; omega) ?_; intro v' w' hown hgrow hnil; obtain ⟨hcell', hfro'⟩ := box_grown hv1.out hr hgrow; have HO : Hid _ := hown; have HG : Hid _ := hgrow; obtain ⟨A', n', c', rfl⟩ := slice_form hown; clear hown hgrow hnil)
  have hq : w'.ownsRow (g + 1) 5 1 (.slice A' n' c') 4 (bNews [80, 76, 79, 49]) := by rw [← HS4.out]; exact HO.out
  obtain ⟨h1, q2⟩ := out_grown hv1.out hr HG.out hq rfl
  have b1 : Hid _ := OutTo.box q2 hbx.out (by decide) (by omega)
  have T1 : Hid _ := (OutTo.of (g := g) HB.out).trans q2
  have x1 : Hid _ := hb0.trans ((OutTo.below hg T1.out).mono hg0)
  clear q2 hq HO HG hcell' hfro' hcell hfro hr HS4 HB
  generalize w'.setCell ⟨g, 0, none⟩ (.slice A' n' c') = w1 at *
  obtain ⟨d0, d1, d2, d3, d4, d5⟩ := box6_cell b1.out
  go_wp2_with fail
  refine (wText g [80, 76, 79, 49] nm (by simp; omega) _ h1).mono ?_
  rintro r w2 ⟨rfl, h2, t2⟩
  have h2 : OutAt w2 g (part1 nm) := h2
  have b2 : Hid _ := OutTo.box t2 b1.out (by decide) (by omega)
  have T2 : Hid _ := T1.out.trans t2
  have x2 : Hid _ := hb0.trans ((OutTo.below hg T2.out).mono hg0)
  obtain ⟨d0, d1, d2, d3, d4, d5⟩ := box6_cell b2.out
  clear t2 h1
  go_wp2_with fail
  refine (wWords g (part1 nm) A1 c1 code w0 _ hC x2.out hg0 hR (by omega) h2).mono ?_
  rintro r w3 ⟨rfl, h3, t3⟩
  have h3 : OutAt w3 g (part2 nm code) := h3
  have b3 : Hid _ := OutTo.box t3 b2.out (by decide) (by omega)
  have T3 : Hid _ := T2.out.trans t3
  have x3 : Hid _ := hb0.trans ((OutTo.below hg T3.out).mono hg0)
  obtain ⟨d0, d1, d2, d3, d4, d5⟩ := box6_cell b3.out
  clear t3 h2
  go_wp2_with fail
  refine (wCount g (part2 nm code) dA (by omega) _ h3).mono ?_
  rintro r w4 ⟨rfl, h4, t4⟩
  have h4 : OutAt w4 g (part3 nm code dA) := h4
  have b4 : Hid _ := OutTo.box t4 b3.out (by decide) (by omega)
  have T4 : Hid _ := T3.out.trans t4
  have x4 : Hid _ := hb0.trans ((OutTo.below hg T4.out).mono hg0)
  obtain ⟨d0, d1, d2, d3, d4, d5⟩ := box6_cell b4.out
  clear t4 h3
  go_wp2_with fail
  refine (wLongs g (part3 nm code dA) A2 c2 data w0 _ hD x4.out hg0 (by omega) h4).mono ?_
  rintro r w5 ⟨rfl, h5, t5⟩
  have h5 : OutAt w5 g (part4 nm code dA data) := h5
  have b5 : Hid _ := OutTo.box t5 b4.out (by decide) (by omega)
  have T5 : Hid _ := T4.out.trans t5
  have x5 : Hid _ := hb0.trans ((OutTo.below hg T5.out).mono hg0)
  obtain ⟨d0, d1, d2, d3, d4, d5⟩ := box6_cell b5.out
  clear t5 h4
  go_wp2_with fail
  refine (wSyms g (part4 nm code dA data) A3 c3 ss w0 _ hS x5.out hg0 hK hn3 (by omega) h5).mono ?_
  rintro r w6 ⟨rfl, h6, t6⟩
  have h6 : OutAt w6 g (part5 nm code dA data ss) := h6
  have b6 : Hid _ := OutTo.box t6 b5.out (by decide) (by omega)
  have T6 : Hid _ := T5.out.trans t6
  have x6 : Hid _ := hb0.trans ((OutTo.below hg T6.out).mono hg0)
  obtain ⟨d0, d1, d2, d3, d4, d5⟩ := box6_cell b6.out
  clear t6 h5
  go_wp2_with fail
  refine (wRels g (part5 nm code dA data ss) A4 c4 rs w0 _ hL x6.out hg0 (by omega) (by rw [flat_len relB 8 (fun _ => rfl)]; omega) h6).mono ?_
  rintro r w7 ⟨rfl, h7, t7⟩
  have h7 : OutAt w7 g (part6 nm code dA data ss rs) := h7
  have b7 : Hid _ := OutTo.box t7 b6.out (by decide) (by omega)
  have T7 : Hid _ := T6.out.trans t7
  have x7 : Hid _ := hb0.trans ((OutTo.below hg T7.out).mono hg0)
  obtain ⟨d0, d1, d2, d3, d4, d5⟩ := box6_cell b7.out
  clear t7 h6
  go_wp2
  go_end0
  rw [part6_body] at h7
  exact ⟨rfl, h7, T7.out⟩

end Go.Proofs.YthfcimmfkibmjaaGreatDoor

namespace Go.Proofs.YthfcimmfkibmjaaGreatDoor
open Go.RowKit

theorem sum_step (b : List Int) (k : Nat) (h : k < b.length) : sumB (b.take (k + 1)) = (31 * sumB (b.take k) + nth b k) % 4294967296 := by
  rw [List.take_succ_eq_append_getElem h]
  unfold sumB
  rw [List.foldl_append]
  simp [nth, List.getD, h]
set_option maxRecDepth 100000 in
theorem refsum_any (A : Option Addr) (cap : Nat) (b : List Int) (w : World) (hB : IntsAt w A .u8 b) (hA : AreB b) (hN : b.length ≤ 1048576) : Calls Tryz.prog 95 #[.slice A b.length cap] w fun r w' => r = .returned (.int .u32 (sumB b)) ∧ w' = w := by
  go_enter Tryz.func95, Tryz.ntmps95
  go_wp2
  go_loop [4, 3] (fun i s => ∃ k : Nat, i = .int .i64 k ∧ k ≤ b.length ∧ s = .int .u32 (sumB (b.take k))) (fun i _ => b.length - (intOf i).toNat)
  case atStart => exact ⟨0, rfl, by omega, rfl⟩
  case round =>
    obtain ⟨k, rfl, hk, rfl⟩ := hrel
    by_cases hlt : k < b.length
    · obtain ⟨a, rfl, q⟩ := hB k hlt
      have HS : Hid _ := sum_step b k hlt
      have hx : 0 ≤ nth b k ∧ nth b k < 256 := hA _ (by simp [nth, List.getD, hlt])
      generalize nth b k = x at q HS hx
      generalize sumB (b.take k) = s at HS
      go_wp2
      go_round
      case rel => exact ⟨k + 1, by go_num, by omega, by rw [HS.out]; congr 1; omega⟩
      case measure => simp [intOf]; omega
    · obtain rfl : k = b.length := by omega
      go_wp2
      go_ret
      exact ⟨by simp, rfl⟩


end Go.Proofs.YthfcimmfkibmjaaGreatDoor
