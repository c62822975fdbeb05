/-
  The program writes an image into an output; an image has at most 2^16 words and its memory, too. Instructions and their words, as plain functions of numbers; no Go in sight.
-/
import Derived.Test.YtfaekkbblpfbhaaDoorProg
import Derived.WalkKit
import Derived.WalkSpells
import Derived.WalkLawsBesides
import Derived.RowKit3
import Derived.Below
import Derived.Deep.QuietTactic
import Derived.BigQuiet
import Derived.WalkSmall
import Derived.Laws.Rows
import Derived.Test.YtfaekkbblpfbhaaDoorIr05
import Derived.Test.YtfaekkbblpfbhaaDoorIr02
import Derived.Test.YtfaekkbblpfbhaaDoorIr07
import Derived.Test.YtfaekkbblpfbhaaDoorIr08
import Derived.RowKit
namespace Go.Proofs.YtfaekkbblpfbhaaDoor
open Go.RowKit

theorem IntsAt.under {g : Nat} {w0 w w1 : World} {A : Option Addr} {K : IntKind} {zs : List Int} (h : IntsAt w0 A K zs) (hb : Below w0.heap.size w0 w) (hg : w0.heap.size ≤ g) (hb1 : Below g w w1) : IntsAt w1 A K zs := h.keep (hb.trans (hb1.mono hg))
theorem flat_snoc {α : Type} (f : α → List Int) (zs : List α) (z : α) (k : Nat) (h : k < zs.length) : (zs.take (k + 1)).flatMap f = (zs.take k).flatMap f ++ f (zs.getD k z) := by
  rw [List.take_succ_eq_append_getElem h, List.flatMap_append]
  simp [List.getD, h]
theorem flat_len {α : Type} (f : α → List Int) (m : Nat) (hf : ∀ x, (f x).length = m) (zs : List α) : (zs.flatMap f).length = zs.length * m := by
  induction zs with
  | nil => simp
  | cons z zs ih => simp [hf, ih, Nat.succ_mul, Nat.add_comm]


def begV : Value := .agg #[.int .u8 80, .int .u8 76, .int .u8 73, .int .u8 49]
theorem idxBeg0 (w : World) : (Instr.index 107 (.agg #[.int .u8 80, .int .u8 76, .int .u8 73, .int .u8 49]) (.int .i64 0)).run Tryd.prog w = .ok (.int .u8 80) w := by kernel_rfl
theorem idxBeg1 (w : World) : (Instr.index 107 (.agg #[.int .u8 80, .int .u8 76, .int .u8 73, .int .u8 49]) (.int .i64 1)).run Tryd.prog w = .ok (.int .u8 76) w := by kernel_rfl
theorem idxBeg2 (w : World) : (Instr.index 107 (.agg #[.int .u8 80, .int .u8 76, .int .u8 73, .int .u8 49]) (.int .i64 2)).run Tryd.prog w = .ok (.int .u8 73) w := by kernel_rfl
theorem idxBeg3 (w : World) : (Instr.index 107 (.agg #[.int .u8 80, .int .u8 76, .int .u8 73, .int .u8 49]) (.int .i64 3)).run Tryd.prog w = .ok (.int .u8 49) w := by kernel_rfl
theorem idxBeg (k : Nat) (hk : k < 4) (w : World) : (Instr.index 107 (.agg #[.int .u8 80, .int .u8 76, .int .u8 73, .int .u8 49]) (.int .i64 k)).run Tryd.prog w = .ok (.int .u8 (nth begI k)) w := by
  have hq : k = 0 ∨ k = 1 ∨ k = 2 ∨ k = 3 := by omega
  rcases hq with rfl | rfl | rfl | rfl
  · exact idxBeg0 w
  · exact idxBeg1 w
  · exact idxBeg2 w
  · exact idxBeg3 w
theorem box3_cell {w : World} {B : Nat} {x y z : Value} {t : TypeId} (h : w.heap[B]? = some (.cells #[x, y, z] t (0, 0))) : w.cell? ⟨B, 0, none⟩ = some x ∧ w.cell? ⟨B, 1, none⟩ = some y ∧ w.cell? ⟨B, 2, none⟩ = some z := by
  refine ⟨?_, ?_, ?_⟩ <;> simp [World.cell?, h]
theorem begI_snoc (k : Nat) (h : k < 4) : begI.take (k + 1) = begI.take k ++ [nth begI k] := by
  have hq : k = 0 ∨ k = 1 ∨ k = 2 ∨ k = 3 := by omega
  rcases hq with rfl | rfl | rfl | rfl <;> rfl
theorem flat_upto {f : Int → List Int} {m : Nat} (hf : ∀ x, (f x).length = m) (zs : List Int) (k : Nat) (hk : k < zs.length) : ((zs.take k).flatMap f).length + m ≤ zs.length * m := by
  rw [flat_len f m hf, List.length_take, Nat.min_eq_left (by omega)]
  have : (k + 1) * m ≤ zs.length * m := Nat.mul_le_mul_right m hk
  rw [Nat.succ_mul] at this
  exact this
set_option maxRecDepth 100000 in
set_option maxHeartbeats 2000000 in
theorem wImage (g : Nat) (A1 A2 : Option Addr) (c1 c2 : Nat) (text mem : List Int) (ent : Int) (w0 w : World) (hG : Beg w) (hT : IntsAt w0 A1 .u32 text) (hM : IntsAt w0 A2 .i64 mem) (hR : ∀ i, i < text.length → 0 ≤ nth text i ∧ nth text i < 4294967296)
    (hb0 : Below w0.heap.size w0 w) (hg0 : w0.heap.size ≤ g) (h1 : text.length ≤ 65536) (h2 : mem.length ≤ 65536) (ho : OutAt w g []) :
    Calls Tryd.prog 35 #[.pointer (some ⟨g, 0, none⟩), .agg #[.slice A1 text.length c1, .int .i64 ent, .slice A2 mem.length c2]] w (Puts g [] (bodyI text ent mem) w) := by
  obtain ⟨i0, hi, hz0, hz1, hz2⟩ := info5
  have hg := ho.lt
  have HA : Hid (OutTo g w (w.alloc (.cells #[.slice A1 text.length c1, .int .i64 ent, .slice A2 mem.length c2] 25))) := OutTo.of (lb_alloc (Below.refl _ _) _)
  have HO : Hid (OutAt (w.alloc (.cells #[.slice A1 text.length c1, .int .i64 ent, .slice A2 mem.length c2] 25)) g []) := ho.keep (lb_alloc (Below.refl _ _) _)
  have HX : Hid ((w.alloc (.cells #[.slice A1 text.length c1, .int .i64 ent, .slice A2 mem.length c2] 25)).heap[w.heap.size]? = some (.cells #[.slice A1 text.length c1, .int .i64 ent, .slice A2 mem.length c2] 25 (0, 0))) := heap_alloc_new _ _
  obtain ⟨b0, b1, b2, b3⟩ := (hG.below (lb_alloc (Below.refl _ _) (.cells #[.slice A1 text.length c1, .int .i64 ent, .slice A2 mem.length c2] 25))).cells
  go_enter Tryd.func35, Tryd.ntmps35
  go_wp2
  go_loopw [11] (fun i wr => ∃ k : Nat, i = .int .i64 k ∧ k ≤ 4 ∧ Hid (OutAt wr g (begI.take k)) ∧ Hid (OutTo g (w.alloc (.cells #[.slice A1 text.length c1, .int .i64 ent, .slice A2 mem.length c2] 25)) wr)) (fun i _ => 4 - (intOf i).toNat)
  case atStart => exact ⟨0, rfl, by omega, HO, OutTo.refl _ _⟩
  case round =>
    obtain ⟨k, rfl, hk, HO1, HT1⟩ := hrel
    by_cases hlt : k < 4
    · have hix := idxBeg k hlt
      obtain ⟨v, hv, hr⟩ := HO1.out
      have hlk : (begI.take k).length = k := by rw [List.length_take]; show min k 4 = k; omega
      rw [hlk] at hr
      have hcell := (box_cell hv).1
      have hfro := (box_cell hv).2
      have hr1 := hr.alloc (.cells #[.int .u8 (nth begI k)] 5)
      have hv1 : Hid ((wr.alloc (.cells #[.int .u8 (nth begI k)] 5)).heap[g]? = some (.cells #[v] 77 (0, 0))) := by
        show _ = _
        rw [(lb_alloc (Below.refl _ wr) _).block g (Array.getElem?_eq_some_iff.1 hv).1]; exact hv
      have hc : ∀ j u, ([.int .u8 (nth begI k)] : List Value)[j]? = some u → (wr.alloc (.cells #[.int .u8 (nth begI k)] 5)).cell? ((⟨wr.heap.size, 0, none⟩ : Addr).add j) = some u := new_cells _ _ _ (by simp)
      have hone : ∀ u ∈ ([.int .u8 (nth begI k)] : List Value), u.oneCell' = true := by simp [Value.oneCell']
      have HS : Hid _ := begI_snoc k hlt
      have hgr : g < wr.heap.size := (Array.getElem?_eq_some_iff.1 hv).1
      clear hv
      generalize nth begI k = x at *
      go_wp2_with (at_builtin; refine wpList_append_own _ rfl (.tmp 18) (.tmp 20) 32 rfl (g + 1) 5 i0 (.int .u8 0) 1 1 Tryd.underlying32 hi hz0 hz1 hz2 rfl (by decide) v k (bNews (begI.take k)) rfl hr1 ⟨wr.heap.size, 0, none⟩ 1 1 [.int .u8 x] rfl rfl hc hone (by unfold maxLen; omega) (by omega) (by simp; omega) ?_; intro v' w' hown hgrow hnil; obtain ⟨hcell', hfro'⟩ := box_grown hv1.out hr1 hgrow; have HW : Hid _ := hown; have HG : Hid _ := hgrow; obtain ⟨A', n', c', rfl⟩ := slice_form hown; clear hown hgrow hnil)
      have hq : w'.ownsRow (g + 1) 5 1 (.slice A' n' c') (k + 1) (bNews (begI.take (k + 1))) := by
        rw [HS.out, ← bNews_app]; exact HW.out
      obtain ⟨p1, p2⟩ := out_grown hv1.out hr1 HG.out hq (by rw [HS.out, List.length_append, hlk]; rfl)
      go_roundw
      case rel => exact ⟨k + 1, by go_num, by omega, p1, HT1.out.trans ((OutTo.of (lb_alloc (Below.refl _ _) _)).trans p2)⟩
      case measure => simp [intOf]; omega
    · obtain rfl : k = 4 := by omega
      have HO1 : Hid (OutAt wr g begI) := HO1
      have HTw : Hid (OutTo g w wr) := HA.out.trans HT1.out
      have hx1 := HT1.out.box HX.out (by decide) (by omega)
      obtain ⟨x0, x1, x2⟩ := box3_cell hx1
      have HX1 : Hid _ := hx1
      have C := wNumber g begI (text.length : Int) (by omega) (by omega) (by simp [begI]) wr HO1.out
      clear hx1 HT1 HA HO HX b0 b1 b2 b3 hG ho
      go_wp2_with fail
      refine C.mono ?_
      rintro r w1 ⟨rfl, h3, h4⟩
      have HO2 : Hid (OutAt w1 g (begI ++ be4 text.length)) := h3
      have HT2 : Hid (OutTo g w w1) := HTw.out.trans h4
      have hx1 := h4.box HX1.out (by decide) (by omega)
      have HX2 : Hid _ := hx1
      obtain ⟨y0, y1, y2⟩ := box3_cell hx1
      clear h3 h4 C x0 x1 x2 hx1 HX1 HO1 HTw
      go_wp2
      go_loopw [34] (fun i wr => ∃ k : Nat, i = .int .i64 k ∧ k ≤ text.length ∧ Hid (OutAt wr g (begI ++ be4 text.length ++ (text.take k).flatMap be4)) ∧ Hid (OutTo g w1 wr)) (fun i _ => text.length - (intOf i).toNat)
      case atStart => exact ⟨0, rfl, Nat.zero_le _, by show OutAt _ _ (_ ++ []); rw [List.append_nil]; exact HO2.out, OutTo.refl _ _⟩
      case round =>
        obtain ⟨k, rfl, hk, HO3, HT3⟩ := hrel
        have HTw3 : Hid (OutTo g w wr) := HT2.out.trans HT3.out
        by_cases hlt : k < text.length
        · obtain ⟨a, rfl, q⟩ := (hT.under hb0 hg0 (HTw3.out.below hg)) k hlt
          have hlen : (begI ++ be4 text.length ++ (text.take k).flatMap be4).length + 4 ≤ 1048576 := by
            have := flat_upto (f := be4) be4_len text k hlt
            rw [List.length_append, List.length_append, be4_len, show begI.length = 4 from rfl]
            omega
          have HF : Hid _ := flat_snoc be4 text 0 k hlt
          have hv := hR k hlt
          have C := wNumber g _ (nth text k) hv.1 hv.2 hlen wr HO3.out
          have HN : Hid (text.getD k 0 = nth text k) := rfl
          generalize nth text k = x at *
          go_wp2_with fail
          refine C.mono ?_
          rintro r w2 ⟨rfl, h3, h4⟩
          have H3 : Hid _ := h3
          have H4 : Hid _ := h4
          clear h3 h4 C
          go_wp2
          go_roundw
          case rel => exact ⟨k + 1, by go_num, by omega, by show OutAt _ _ _; rw [HF.out, HN.out, ← List.append_assoc]; exact H3.out, HT3.out.trans H4.out⟩
          case measure => simp [intOf]; omega
        · obtain rfl : k = text.length := by omega
          rw [List.take_of_length_le (Nat.le_refl _)] at HO3
          have hx1 := HT3.out.box HX2.out (by decide) (by omega)
          have HX3 : Hid _ := hx1
          obtain ⟨z0, z1, z2⟩ := box3_cell hx1
          have L3 : (begI ++ be4 text.length ++ text.flatMap be4).length = 8 + text.length * 4 := by
            rw [List.length_append, List.length_append, be4_len, flat_len be4 4 be4_len]; simp [begI]
          have C := wNumber g _ (ent % 4294967296) (by omega) (by omega) (by rw [L3]; omega) wr HO3.out
          rw [be4_mod] at C
          clear hx1 HT3 HO2 HT2 y0 y1 y2 HX2
          generalize hL3 : begI ++ be4 text.length ++ text.flatMap be4 = l3 at *
          have HL3 : Hid _ := hL3
          clear hL3
          go_wp2_with fail
          refine C.mono ?_
          rintro r w2 ⟨rfl, h3, h4⟩
          have HO4 : Hid (OutAt w2 g (l3 ++ be4 ent)) := h3
          have HT4 : Hid (OutTo g w w2) := HTw3.out.trans h4
          have hx1 := h4.box HX3.out (by decide) (by omega)
          have HX4 : Hid _ := hx1
          obtain ⟨y0, y1, y2⟩ := box3_cell hx1
          clear h3 h4 C z0 z1 z2 hx1 HX3 HO3 HTw3
          have C := wNumber g _ (mem.length : Int) (by omega) (by omega) (by rw [len_app4]; omega) w2 HO4.out
          go_wp2_with fail
          refine C.mono ?_
          rintro r w3 ⟨rfl, h3, h4⟩
          have HO5 : Hid (OutAt w3 g (l3 ++ be4 ent ++ be4 mem.length)) := h3
          have HT5 : Hid (OutTo g w w3) := HT4.out.trans h4
          have hx1 := h4.box HX4.out (by decide) (by omega)
          obtain ⟨z0, z1, z2⟩ := box3_cell hx1
          clear h3 h4 C y0 y1 y2 hx1 HX4 HO4 HT4
          go_wp2
          go_loopw [56] (fun i wr => ∃ k : Nat, i = .int .i64 k ∧ k ≤ mem.length ∧ Hid (OutAt wr g (l3 ++ be4 ent ++ be4 mem.length ++ (mem.take k).flatMap be8)) ∧ Hid (OutTo g w3 wr)) (fun i _ => mem.length - (intOf i).toNat)
          case atStart => exact ⟨0, rfl, Nat.zero_le _, by show OutAt _ _ (_ ++ []); rw [List.append_nil]; exact HO5.out, OutTo.refl _ _⟩
          case round =>
            obtain ⟨k, rfl, hk, HO6, HT6⟩ := hrel
            have HTw6 : Hid (OutTo g w wr) := HT5.out.trans HT6.out
            by_cases hlt : k < mem.length
            · obtain ⟨a, rfl, q⟩ := (hM.under hb0 hg0 (HTw6.out.below hg)) k hlt
              have hlen : (l3 ++ be4 ent ++ be4 mem.length ++ (mem.take k).flatMap be8).length + 8 ≤ 1048576 := by
                have := flat_upto (f := be8) be8_len mem k hlt
                rw [List.length_append, len_app4, len_app4, L3]
                omega
              have HF : Hid _ := flat_snoc be8 mem 0 k hlt
              have HN : Hid (mem.getD k 0 = nth mem k) := rfl
              generalize nth mem k = x at *
              have hwv : IntKind.u64.wrap x = x % 18446744073709551616 := by simp [IntKind.wrap, IntKind.signed, IntKind.bits]
              have E1 : Hid (be4 (IntKind.u64.wrap x / 4294967296 % 4294967296) = be4 (x / 4294967296)) := by
                show _ = _
                rw [hwv, be4_mod, ← be4_mod (x % 18446744073709551616 / 4294967296), ← be4_mod (x / 4294967296)]
                congr 1
                omega
              have hl8 := len_app4 (l3 ++ be4 ent ++ be4 mem.length ++ (mem.take k).flatMap be8) (x / 4294967296)
              clear hwv
              generalize hL6 : l3 ++ be4 ent ++ be4 mem.length ++ (mem.take k).flatMap be8 = l6 at *
              have HL6 : Hid _ := hL6
              clear hL6
              go_wp2_with fail
              refine (wNumber g l6 _ ?a1 ?a2 (by omega) _ HO6.out).mono ?_
              case a1 => omega
              case a2 => omega
              rintro r w4 ⟨rfl, h3, h4⟩
              rw [E1.out] at h3
              have H4 : Hid _ := h4
              clear h4
              go_wp2_with fail
              refine (wNumber g _ (x % 4294967296) (by omega) (by omega) (by omega) _ h3).mono ?_
              rintro r w5 ⟨rfl, h5, h6⟩
              rw [be4_mod, List.append_assoc] at h5
              have H5 : Hid (OutAt w5 g (l6 ++ be8 x)) := h5
              have H6 : Hid _ := h6
              clear h3 h5 h6
              go_wp2
              go_roundw
              case rel => exact ⟨k + 1, by go_num, by omega, by show OutAt _ _ _; rw [HF.out, HN.out, ← List.append_assoc, HL6.out]; exact H5.out, HT6.out.trans (H4.out.trans H6.out)⟩
              case measure => simp [intOf]; omega
            · obtain rfl : k = mem.length := by omega
              rw [List.take_of_length_le (Nat.le_refl _)] at HO6
              go_wp2
              go_end0
              refine ⟨rfl, ?_, HTw6.out⟩
              have e : bodyI text ent mem = l3 ++ be4 ent ++ be4 mem.length ++ mem.flatMap be8 := by unfold bodyI; rw [← HL3.out]
              rw [List.nil_append, e]
              exact HO6.out
/-- A row of bytes, as it lies. -/
theorem own_ints {w : World} {base n : Nat} {v : Value} {l : List Int} (h : w.ownsRow base 5 1 v n (bNews l)) : ∃ A c, v = .slice A l.length c ∧ IntsAt w A .u8 l ∧ l.length ≤ c := by
  have hn : l.length = n := by have := h.1; rw [bNews_len] at this; omega
  rcases h.2 with ⟨rfl, h0⟩ | ⟨g, cap, cur, rfl, hb, hg, hc, _⟩
  · refine ⟨none, 0, by rw [hn, h0], fun i hi => by omega, by omega⟩
  · refine ⟨some ⟨g, 0, none⟩, cap, by rw [hn], fun i hi => ⟨_, rfl, ?_⟩, by omega⟩
    exact h.cells rfl i _ (by simp [bNews, nth, List.getD, hi])

theorem sum_any (A : Option Addr) (cap : Nat) (b : List Int) (w : World) (hB : IntsAt w A .u8 b) (hA : AreB b) (hN : b.length ≤ 1048576) : Calls Tryd.prog 21 #[.slice A b.length cap] w fun r w' => r = .returned (.int .u32 (sumB b)) ∧ w' = w := by
  go_enter Tryd.func21, Tryd.ntmps21
  go_wp2
  go_loop [8, 3] (fun i s => ∃ k : Nat, i = .int .i64 k ∧ k ≤ b.length ∧ s = .int .u32 (sumB (b.take k))) (fun i _ => b.length - (intOf i).toNat)
  case atStart => exact ⟨0, rfl, by omega, rfl⟩
  case round =>
    obtain ⟨k, rfl, hk, rfl⟩ := hrel
    by_cases hlt : k < b.length
    · obtain ⟨a, rfl, q⟩ := hB k hlt
      have HS : Hid _ := sum_step b k hlt
      have hx : 0 ≤ nth b k ∧ nth b k < 256 := hA _ (by simp [nth, List.getD, hlt])
      generalize nth b k = x at q HS hx
      generalize sumB (b.take k) = s at HS
      go_wp2
      go_round
      case rel => exact ⟨k + 1, by go_num, by omega, by rw [HS.out]; congr 1; omega⟩
      case measure => simp [intOf]; omega
    · obtain rfl : k = b.length := by omega
      go_wp2
      go_ret
      exact ⟨by simp, rfl⟩

end Go.Proofs.YtfaekkbblpfbhaaDoor

namespace Go.Proofs.YtfaekkbblpfbhaaDoor
open Go.RowKit

/-- Which fields an op has: D, A, B, N; whether its N is a place. -/
def hD (op : Int) : Bool := decide (op = 1 ∨ op = 2 ∨ (3 ≤ op ∧ op ≤ 11) ∨ op = 13 ∨ op = 20)
def hA (op : Int) : Bool := decide ((2 ≤ op ∧ op ≤ 12) ∨ op = 14 ∨ op = 16 ∨ op = 18 ∨ op = 19)
def hB (op : Int) : Bool := decide ((3 ≤ op ∧ op ≤ 10) ∨ op = 12)
def hN (op : Int) : Bool := decide (op = 1 ∨ op = 11 ∨ op = 12 ∨ (14 ≤ op ∧ op ≤ 17) ∨ op = 20)
def hP (op : Int) : Bool := decide ((15 ≤ op ∧ op ≤ 17) ∨ op = 20)
/-- May a register's field be r? -/
def regOK (h : Bool) (r : Int) : Bool := if h then decide (0 ≤ r ∧ r < 16) else decide (r = 0)
/-- May N be x? -/
def numOK (n p : Bool) (x : Int) : Bool := if n then (if p then decide (0 ≤ x ∧ x < 16384) else decide (-16384 ≤ x ∧ x ≤ 16383)) else decide (x = 0)
def insOK (op d a b n : Int) : Bool := regOK (hD op) d && regOK (hA op) a && regOK (hB op) b && numOK (hN op) (hP op) n
/-- The word. -/
def encW (op d a b n : Int) : Int := op * 134217728 + d * 8388608 + a * 524288 + b * 32768 + n % 32768
/-- Encode's word and error. -/
def encV (op d a b n : Int) : Int := if op < 0 ∨ 21 < op then 0 else if insOK op d a b n then encW op d a b n else 0
def encE (op d a b n : Int) : Int := if op < 0 ∨ 21 < op then 10 else if insOK op d a b n then 0 else 11
/-- The fields of a word. -/
def wOp (w : Int) : Int := w / 134217728
def wD (w : Int) : Int := w / 8388608 % 16
def wA (w : Int) : Int := w / 524288 % 16
def wB (w : Int) : Int := w / 32768 % 16
def wN (w : Int) : Int := if hN (wOp w) && !hP (wOp w) && decide (16384 ≤ w % 32768) then w % 32768 - 32768 else w % 32768
/-- Is a word an instruction? -/
def isIns (w : Int) : Bool := decide (wOp w ≤ 21) && insOK (wOp w) (wD w) (wA w) (wB w) (wN w)


end Go.Proofs.YtfaekkbblpfbhaaDoor
