/-
  Two lists of numbers compared, by the document's helpers: true just if they are one list; the first is at most 2^20 long. Two lists of symbols, of relocations compared, by the document's helpers: true just if they are one list; the first is at most 2^20 long. An object compared with one that is the same, by the document's helper: true; the lists are at most 2^20 long. The law TouchAll, from what is asked of the program. What the program asks of sets of registers; no Go in sight.
-/
import Derived.Test.YtlnclldoodpcgaaProg
import Derived.WalkKit
import Derived.WalkSpells
import Derived.WalkLawsBesides
import Derived.RowKit3
import Derived.Below
import Derived.Deep.QuietTactic
import Derived.BigQuiet
import Derived.WalkSmall
import Derived.Test.YtlnclldoodpcgaaPa01
import Derived.Laws.Rows
import Derived.Test.YtlnclldoodpcgaaPa08
import Derived.Test.YtlnclldoodpcgaaPa06
import Derived.Laws.OwnMore
import Derived.Test.YtlnclldoodpcgaaPa03
import Derived.Test.YtlnclldoodpcgaaPa02
namespace Go.Proofs.Ytlnclldoodpcgaa
open Go.RowKit

set_option maxRecDepth 100000 in
set_option maxHeartbeats 1000000 in
theorem eqwords_any (A B : Option Addr) (ca cb : Nat) (zs ys : List Int) (w : World) (hA : IntsAt w A .u32 zs) (hB : IntsAt w B .u32 ys) (hz : zs.length ≤ 1048576) :
    Calls Try.prog 17 #[.slice A zs.length ca, .slice B ys.length cb] w fun e w' => e = .returned (.bool (decide (zs = ys))) ∧ Below w.heap.size w w' := by
  by_cases hl : zs.length = ys.length
  · have hl' : ((zs.length : Int) == (ys.length : Int)) = true := by rw [hl]; simp
    have HL : Hid (zs.length = ys.length) := hl
    clear hl
    go_enter Try.func17, Try.ntmps17
    go_wp2
    go_loopw [5] (fun i wr => ∃ (k m : Nat), i = .int .i64 k ∧ k ≤ zs.length ∧ wr = w.drewN m ∧ Hid (zs.take k = ys.take k)) (fun i _ => zs.length - (intOf i).toNat)
    case atStart => exact ⟨0, 0, rfl, by omega, rfl, by simp [Hid]⟩
    case round =>
      obtain ⟨k, m, rfl, hk, rfl, HT⟩ := hrel
      by_cases hlt : k < zs.length
      · obtain ⟨a, rfl, c1⟩ := hA k hlt
        obtain ⟨b, rfl, c2⟩ := hB k (by have := HL.out; omega)
        have hlt2 : (k : Int) < (ys.length : Int) := by have := HL.out; omega
        by_cases he : nth zs k = nth ys k
        · have HE : Hid (nth zs k = nth ys k) := he
          have he' : (nth zs k == nth ys k) = true := by simpa using he
          clear he
          go_wp2_with fail
          go_quiet (fail)
          go_wp2
          go_roundw
          case rel => exact ⟨k + 1, _, by go_num, by omega, rfl, take_same HT.out hlt (by omega) HE.out⟩
          case measure => simp [intOf]; omega
        · have HE : Hid (¬ nth zs k = nth ys k) := he
          have he' : (nth zs k == nth ys k) = false := by simpa using he
          clear he
          go_wp2_with fail
          go_quiet (fail)
          go_wp2
          go_ret
          exact ⟨retB (decide_eq_false (nth_ne HE.out)).symm, below_drewN (below_drewN (Below.refl _ _) _) _⟩
      · go_wp2
        go_ret
        exact ⟨retB (decide_eq_true (take_all HT.out (by omega) HL.out)).symm, below_drewN (Below.refl _ _) _⟩
  · have hl' : ((zs.length : Int) == (ys.length : Int)) = false := by simp; omega
    have HL : Hid (¬ zs.length = ys.length) := hl
    clear hl
    go_enter Try.func17, Try.ntmps17
    go_wp2
    go_ret
    exact ⟨retB (decide_eq_false (fun h => HL.out (by rw [h]))).symm, Below.refl _ _⟩



end Go.Proofs.Ytlnclldoodpcgaa

namespace Go.Proofs.Ytlnclldoodpcgaa
open Go.RowKit

theorem news_vals (K : IntKind) (l : List Int) : iNews K l = iVals K l := by
  apply List.ext_getElem?
  intro i
  by_cases hi : i < l.length
  · rw [iVals_get hi]
    simp [iNews, hi, wInt]
  · rw [List.getElem?_eq_none (by simp [iNews]; omega), List.getElem?_eq_none (by simp [iVals]; omega)]
theorem infoU : ∃ i, Try.prog.info? 22 = some i ∧ i.zero = some (.int .u32 0) ∧ i.size = 1 ∧ i.bytes = 4 :=
  ⟨(Try.prog.info? 22).get (by kernel_rfl), by kernel_rfl, by kernel_rfl, by kernel_rfl, by kernel_rfl⟩
theorem wpList_appnone {P : Program} (w : World) {ops : Array Oper} {rest : List Oper} {o : Oper} {a : Act} {Q : Exit → Act → World → Prop} (hgd : o.guard = none) (s x : Operand) (t : TypeId)
    (ho : o.op = .call { callee := .builtin .append, args := #[s, x], argTypes := #[t, t] }) (v : Value) (hs : a.eval s = v) (hx : a.eval x = .slice none 0 0) (hr : ∀ ty, (Builtin.append_ #[t, t] ty #[v, .slice none 0 0]).run P w = .ok v w)
    (h : wpList P ops Q rest (a.put o.dst v) w) : wpList P ops Q (o :: rest) a w :=
  wpList_plain hgd fun K' hK' => by
    unfold Oper.wp execOp
    simp only [ho, resolve, invoke, builtin, Sem.run_bind, Sem.run_pure, Result.andThen_ok, List.map_toArray, List.map_cons, List.map_nil, hs, hx, hr]
    exact hK' _ _ h
theorem range_two {a b : List Int} (ra : ∀ i, i < a.length → 0 ≤ nth a i ∧ nth a i < 4294967296) (rb : ∀ i, i < b.length → 0 ≤ nth b i ∧ nth b i < 4294967296) : ∀ i, i < (a ++ b).length → 0 ≤ nth (a ++ b) i ∧ nth (a ++ b) i < 4294967296 := fun i hi => by
  by_cases h : i < a.length
  · rw [nth_left h]; exact ra i h
  · obtain ⟨j, rfl⟩ : ∃ j, i = a.length + j := ⟨i - a.length, by omega⟩
    rw [nth_right]
    exact rb j (by rw [List.length_append] at hi; omega)
set_option maxRecDepth 100000 in
set_option maxHeartbeats 4000000 in
theorem lawAll (hr : ReadsOK) (hw : WritesOK) (hl : LinksOK) (ha : AloneOK) (hal : AllOK) (A B : Option Addr) (ca cb : Nat) (a b : List Int) (w : World) (kA : IntsAt w A .u32 a) (kB : IntsAt w B .u32 b) (ra : ∀ i, i < a.length → 0 ≤ nth a i ∧ nth a i < 4294967296) (rb : ∀ i, i < b.length → 0 ≤ nth b i ∧ nth b i < 4294967296) (ua : A = none → ca = 0) (ub : B = none → cb = 0) (la : a.length ≤ 140737488355328) (lb : b.length ≤ 140737488355328) :
    Calls Try.prog 4 #[.slice A a.length ca, .slice B b.length cb] w fun e w' => e = .returned (.bool true) ∧ Below w.heap.size w w' := by
  have CW := fun wx => works_any hr hw hl ha hal wx
  by_cases hbig : 8192 < a.length + b.length
  · have h1 : (8192 : Int) < (a.length : Int) + (b.length : Int) := by omega
    have h2 : (a.length : Int) ≤ 140737488355328 := by omega
    have h3 : (b.length : Int) ≤ 140737488355328 := by omega
    clear kA kB ra rb ua ub hr hw hl ha hal
    go_enter Try.func4, Try.ntmps4
    go_wp2_with (go_at_call 13; refine (CW _).mono ?_; rintro e w9 ⟨rfl, hb9⟩)
    go_ret
    exact ⟨rfl, hb9⟩
  · have h1 : ¬ (8192 : Int) < (a.length : Int) + (b.length : Int) := by omega
    have h2 : (a.length : Int) ≤ 8192 := by omega
    have h3 : (b.length : Int) ≤ 8192 := by omega
    obtain ⟨iU, hi, hz0, hz1, hz2⟩ := infoU
    have C1 := copywords_any A ca a w kA ua (by omega)
    rw [news_vals] at C1
    have HA : Hid (IntsAt w A .u32 a) := kA
    have HB : Hid (IntsAt w B .u32 b) := kB
    have CA := fun (O : Option Addr) (c : Nat) (wx : World) (hx : IntsAt wx O .u32 a) => hal O c a wx hx ra (by omega)
    have DA := fun (wx : World) (hx : Below w.heap.size w wx) => refall_any A ca a wx (kA.keep hx) ra (by omega)
    have CE := fun (O : Option Addr) (c : Nat) (wx : World) (hx : IntsAt wx O .u32 a) (hy : Below w.heap.size w wx) => eqwords_any O A c ca a a wx hx (kA.keep hy) (by omega)
    simp only [decide_true] at CE
    have CB := fun (wx : World) (hx : Below w.heap.size w wx) => hal B cb b wx (kB.keep hx) rb (by omega)
    have CC := fun (O : Option Addr) (c : Nat) (wx : World) (hx : IntsAt wx O .u32 (a ++ b)) => hal O c (a ++ b) wx hx (range_two ra rb) (by rw [List.length_append]; omega)
    have HR2 : Hid (allR (a ++ b) (a ++ b).length = allR a a.length ||| lessN (allR b b.length) (allW a a.length)) := by unfold Hid; rw [List.length_append]; exact allR_two a b b.length
    have HW2 : Hid (allW (a ++ b) (a ++ b).length = allW a a.length ||| allW b b.length) := by unfold Hid; rw [List.length_append]; exact allW_two a b b.length
    unfold AllP at CA DA CB CC
    rw [HR2.out, HW2.out, List.length_append] at CC
    have hless := lessI (allR_lt b b.length) (allW_lt a a.length)
    have hor := orI (allR_lt a a.length) (lessN_lt (b := allW a a.length) (allR_lt b b.length))
    have hor2 := orI (allW_lt a a.length) (allW_lt b b.length)
    clear HR2 HW2 kA kB ra rb hr hw hl ha hal ua hbig
    generalize lessN (allR b b.length) (allW a a.length) = z at *
    generalize allR a a.length = x1 at *
    generalize allW a a.length = y1 at *
    generalize allR b b.length = x2 at *
    generalize allW b b.length = y2 at *
    generalize x1 ||| z = s1 at *
    generalize y1 ||| y2 = s2 at *
    go_enter Try.func4, Try.ntmps4
    go_upto_region 9 with (first
      | (go_at_call 14; refine C1.mono ?_; rintro e w1 ⟨O, cO, rfl, hown, hg1, _⟩; have HB1 : Hid (Below w.heap.size w w1) := (Below.refl _ _).grown hg1 (Nat.le_refl _) (fun j hj => by cases hj); have HO1 : Hid (w1.ownsRow w.heap.size 22 1 (.slice O a.length cO) a.length (iVals .u32 a)) := hown; have HI1 : Hid (IntsAt w1 O .u32 a) := row_ints hown; clear hown hg1)
      | (go_at_call 15; first | (refine (CA _ _ _ HI1.out).mono ?_; rintro e w2 ⟨rfl, hb2⟩; have HB2 : Hid (Below w.heap.size w w2) := lb_trans HB1.out hb2; have HO2 : Hid (w2.ownsRow w.heap.size 22 1 (.slice O a.length cO) a.length (iVals .u32 a)) := row_keep HO1.out hb2; clear hb2 HI1) | (refine (CB _ HB4.out).mono ?_; rintro e w5 ⟨rfl, hb5⟩; have HB5 : Hid (Below w.heap.size w w5) := lb_trans HB4.out hb5; have HO5 : Hid (w5.ownsRow w.heap.size 22 1 (.slice O a.length cO) a.length (iVals .u32 a)) := row_keep HO4.out hb5; clear hb5))
      | (go_at_call 16; refine (DA _ HB2.out).mono ?_; rintro e w3 ⟨rfl, hb3⟩; have HB3 : Hid (Below w.heap.size w w3) := lb_trans HB2.out hb3; have HO3 : Hid (w3.ownsRow w.heap.size 22 1 (.slice O a.length cO) a.length (iVals .u32 a)) := row_keep HO2.out hb3; clear hb3)
      | (go_at_call 17; refine (CE _ _ _ (row_ints HO3.out) HB3.out).mono ?_; rintro e w4 ⟨rfl, hb4⟩; have HB4 : Hid (Below w.heap.size w w4) := lb_trans HB3.out hb4; have HO4 : Hid (w4.ownsRow w.heap.size 22 1 (.slice O a.length cO) a.length (iVals .u32 a)) := row_keep HO3.out hb4; clear hb4))
    cases B with
    | none =>
      obtain rfl := ub rfl
      have hb0 : b = [] := by
        cases b with
        | nil => rfl
        | cons y t => obtain ⟨a2, e, _⟩ := HB.out 0 (by simp); cases e
      subst hb0
      have hrn : ∀ ty, (Builtin.append_ #[27, 27] ty #[.slice O a.length cO, .slice none 0 0]).run Try.prog w5 = .ok (.slice O a.length cO) w5 := fun ty => run_append_owned_none (P := Try.prog) (w := w5) w.heap.size 27 ty 22 iU 1 Try.underlying27 hi (.slice O a.length cO) a.length (iVals .u32 a) HO5.out
      have C6 := CC O cO w5 (by rw [List.append_nil]; exact row_ints HO5.out)
      go_wp2_with (first
        | (at_builtin; go_loud (refine wpList_appnone _ rfl (.tmp 53) (.tmp 54) 27 rfl (.slice O a.length cO) rfl rfl hrn ?_))
        | (go_at_call 15; refine C6.mono ?_; rintro e w7 ⟨rfl, hb7⟩)
        | (go_at_call 13; refine (CW _).mono ?_; rintro e w9 ⟨rfl, hb9⟩))
      go_ret
      exact ⟨rfl, lb_trans (lb_trans HB5.out hb7) hb9⟩
    | some ad =>
      go_upto_region 10 with (first
        | (at_builtin; go_loud (refine wpList_append_own _ rfl (.tmp 53) (.tmp 54) 27 rfl w.heap.size 22 iU (.int .u32 0) 1 4 Try.underlying27 hi hz0 hz1 hz2 rfl (by decide) (.slice O a.length cO) a.length (iVals .u32 a) rfl HO5.out ad b.length cb (iVals .u32 b) rfl (by simp [iVals]) (fun j u hu => by obtain ⟨hj, _⟩ := List.getElem?_eq_some_iff.1 hu; have hj : j < b.length := (by simpa [iVals] using hj); obtain ⟨a2, ea, q⟩ := (HB.out.keep HB5.out) j hj; obtain rfl := Option.some.inj ea; rw [iVals_get hj] at hu; rw [q]; exact hu) (fun u hu => by obtain ⟨x, _, rfl⟩ := List.mem_map.1 hu; rfl) (by unfold maxLen; omega) (by omega) HB5.out.size ?_; intro v6 w6 hown hgrow _; have HO6 : Hid (w6.ownsRow w.heap.size 22 1 v6 (a ++ b).length (iVals .u32 (a ++ b))) := (by rw [Hid, List.length_append, show iVals .u32 (a ++ b) = iVals .u32 a ++ iVals .u32 b by simp [iVals]]; exact hown); have HB6 : Hid (Below w.heap.size w w6) := HB5.out.grown hgrow HB5.out.size (fun q hq => (HO5.out.lt q hq).1); clear hown hgrow; obtain ⟨O6, c6, e6⟩ := own_form HO6.out; subst e6; have C6 := CC O6 c6 w6 (row_ints HO6.out); have hlen : (a ++ b).length = a.length + b.length := List.length_append; rw [hlen]; clear hlen))
        | (go_at_call 15; refine C6.mono ?_; rintro e w7 ⟨rfl, hb7⟩))
      go_wp2_with (go_at_call 13; refine (CW _).mono ?_; rintro e w9 ⟨rfl, hb9⟩)
      go_ret
      exact ⟨rfl, lb_trans (lb_trans HB6.out hb7) hb9⟩

end Go.Proofs.Ytlnclldoodpcgaa

namespace Go.Proofs.Ytlnclldoodpcgaa
open Go.RowKit

/-- Is it a call? -/
def cllB (op : Int) : Bool := op == 17 || op == 18
/-- What an instruction reads and writes, by its fields. -/
def irdN (op da db : Int) : Nat := bitN (hA op) da ||| bitN (hB op) db
def iwrN (op dd : Int) : Nat := bitN (hD op) dd ||| bitN (cllB op) 15
theorem rdN_is (v : Int) : rdN v = irdN (dOp v) (dA v) (dB v) := rfl
theorem wrN_is (v : Int) : wrN v = iwrN (dOp v) (dD v) := by
  unfold wrN iwrN
  generalize dOp v = op
  by_cases h : op = 17 ∨ op = 18
  · rw [if_pos h]
    rcases h with rfl | rfl
    · rw [show hD 17 = false by decide, show cllB 17 = true by decide, show bitN false (dD v) = 0 from rfl, Nat.zero_or]; decide
    · rw [show hD 18 = false by decide, show cllB 18 = true by decide, show bitN false (dD v) = 0 from rfl, Nat.zero_or]; decide
  · rw [if_neg h]
    have : cllB op = false := by
      unfold cllB
      rw [Bool.or_eq_false_iff, beq_eq_false_iff_ne, beq_eq_false_iff_ne]
      exact ⟨fun e => h (.inl e), fun e => h (.inr e)⟩
    rw [this, show bitN false 15 = 0 from rfl, Nat.or_zero]
theorem irdN_lt {op da db : Int} (h : da ≤ 15) (k : db ≤ 15) : irdN op da db < 65536 := orN_lt (bitN_lt _ h) (bitN_lt _ k)
theorem iwrN_lt {op dd : Int} (h : dd ≤ 15) : iwrN op dd < 65536 := orN_lt (bitN_lt _ h) (bitN_lt _ (by omega))
theorem linkA {n : Nat} (h : n < 65536) : ((bits .and .u16 (n : Int) 32768) != 0) = decide (n / 32768 = 1) := by
  rw [u16_and _ _ (by omega) (by omega) (by omega) (by omega)]
  have e : ((n : Int).toNat &&& (32768 : Int).toNat : Nat) = if n / 32768 = 1 then 32768 else 0 := by
    show n &&& 32768 = _
    apply Nat.eq_of_testBit_eq
    intro i
    rw [Nat.testBit_and, show (32768 : Nat) = 2 ^ 15 from rfl, Nat.testBit_two_pow]
    by_cases hi : 15 = i
    · subst hi
      rw [Nat.testBit_eq_decide_div_mod_eq]
      by_cases e : n / 2 ^ 15 = 1
      · rw [if_pos e, e, Nat.testBit_two_pow]; rfl
      · rw [if_neg e]
        have : n / 2 ^ 15 = 0 := by omega
        rw [this]; rfl
    · by_cases e : n / 2 ^ 15 = 1
      · rw [if_pos e, Nat.testBit_two_pow]; simp [hi]
      · rw [if_neg e]; simp [hi]
  rw [e]
  by_cases k : n / 32768 = 1
  · rw [if_pos k, decide_eq_true k]; rfl
  · rw [if_neg k, decide_eq_false k]; rfl

end Go.Proofs.Ytlnclldoodpcgaa
