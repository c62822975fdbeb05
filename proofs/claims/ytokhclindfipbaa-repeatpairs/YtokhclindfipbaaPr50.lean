/-
  Plain: of each pair with a length just one told sequence has both; the sums. Places. Plain: three pairs of instructions.
-/
import Derived.Test.YtokhclindfipbaaProg
import Derived.WalkKit
import Derived.WalkSpells
import Derived.WalkLawsBesides
import Derived.RowKit3
import Derived.Below
import Derived.Deep.QuietTactic
import Derived.BigQuiet
import Derived.WalkSmall
import Derived.Laws.Rows
import Derived.Test.YtokhclindfipbaaPr49
import Derived.Test.YtokhclindfipbaaPr46
import Derived.Test.YtokhclindfipbaaPr25
import Derived.Test.YtokhclindfipbaaPr26
import Derived.Test.YtokhclindfipbaaPr29
import Derived.Test.YtokhclindfipbaaPr48
namespace Go.Proofs.Ytokhclindfipbaa
open Go.RowKit

theorem ifc {p q : Prop} [Decidable p] [Decidable q] (e : p ↔ q) : (if p then 1 else 0 : Nat) = if q then 1 else 0 := by
  by_cases c : p
  · rw [if_pos c, if_pos (e.1 c)]
  · rw [if_neg c, if_neg (fun x => c (e.2 x))]
theorem mem_ne {x y : Nat} {l : List Nat} (h : ¬ y = x) : (y ∈ x :: l) ↔ y ∈ l := by
  rw [List.mem_cons]
  exact ⟨fun e => e.elim (fun z => absurd z h) id, .inr⟩
theorem bothN_is {i k : Nat} (h : i ≠ k) : ∀ {l : List Nat}, l.Nodup → bothN i k l = (if i ∈ l then 1 else 0) + (if k ∈ l then 1 else 0)
  | [], _ => by simp [bothN]
  | x :: l, hn => by
    obtain ⟨h1, h2⟩ := List.nodup_cons.1 hn
    have ih := bothN_is h h2
    have e : bothN i k (x :: l) = (if x = i ∨ x = k then 1 else 0) + bothN i k l := by
      unfold bothN
      rw [List.filter_cons]
      by_cases c : x = i ∨ x = k
      · rw [if_pos c, if_pos (by simpa using c), List.length_cons]
        omega
      · rw [if_neg c, if_neg (by simpa using c)]
        omega
    rw [e, ih]
    by_cases c1 : x = i
    · subst c1
      rw [if_pos (.inl rfl), if_neg h1, if_pos (List.mem_cons_self), ifc (mem_ne (l := l) (fun e : k = x => h e.symm))]
      omega
    · by_cases c2 : x = k
      · subst c2
        rw [if_pos (.inr rfl), if_neg h1, if_pos (show x ∈ x :: l from List.mem_cons_self), ifc (mem_ne (l := l) h)]
        omega
      · rw [if_neg (fun e => e.elim c1 c2), ifc (mem_ne (l := l) (fun e : i = x => c1 e.symm)), ifc (mem_ne (l := l) (fun e : k = x => c2 e.symm))]
        omega
theorem bothN_two {i k : Nat} (h : i ≠ k) {l : List Nat} (hn : l.Nodup) : bothN i k l = 2 ↔ i ∈ l ∧ k ∈ l := by
  rw [bothN_is h hn]
  by_cases c1 : i ∈ l
  · by_cases c2 : k ∈ l
    · simp [c1, c2]
    · simp [c1, c2]
  · by_cases c2 : k ∈ l
    · simp [c1, c2]
    · simp [c1, c2]
theorem one_len {α : Type} {l : List α} {a : α} (hn : l.Nodup) (ha : a ∈ l) (h : ∀ x, x ∈ l → x = a) : l.length = 1 := by
  match l, hn, ha, h with
  | [x], _, _, _ => rfl
  | x :: y :: l, hn, _, h =>
    have e1 := h x (by simp)
    have e2 := h y (by simp)
    rw [e1, e2] at hn
    simp at hn
theorem tog_one {nm : List Int} {en : Nat → Nat} (h : EnP nm en) {n i k : Nat} (hi : i < nm.length) (hk : k < nm.length) (hne : i ≠ k) (hn : 2 ≤ n) (hm : n ≤ mE nm en i k) : togN n i k (tdL nm en (eachL nm en)) = 1 := by
  have hE := each_is h (nm := nm)
  unfold togN tdL
  rw [List.filter_map, List.length_map]
  obtain ⟨f, q, h1, h2⟩ := rep_both h hi hk hne hn hm
  have key : ∀ r : Nat × Nat, (togP n i k ∘ fun r : Nat × Nat => (r.1, plcS nm en r.2 r.1)) r = true ↔ r.1 = n ∧ n ≤ mE nm en r.2 i ∧ n ≤ mE nm en r.2 k := fun r => by
    simp only [Function.comp, togP, Bool.and_eq_true, decide_eq_true_eq]
    constructor
    · rintro ⟨rfl, hb⟩
      obtain ⟨b1, b2⟩ := (bothN_two hne (plcS_nodup nm en r.2 r.1)).1 hb
      exact ⟨rfl, (plcS_mem.1 b1).2, (plcS_mem.1 b2).2⟩
    · rintro ⟨rfl, b1, b2⟩
      exact ⟨rfl, (bothN_two hne (plcS_nodup nm en r.2 r.1)).2 ⟨plcS_mem.2 ⟨hi, b1⟩, plcS_mem.2 ⟨hk, b2⟩⟩⟩
  refine one_len (a := (n, f)) (hE.nodup.filter _) ?_ fun r hr => ?_
  · exact List.mem_filter.2 ⟨(hE.mem _).2 q, (key _).2 ⟨rfl, h1, h2⟩⟩
  · obtain ⟨r1, r2⟩ := List.mem_filter.1 hr
    obtain ⟨e1, e2, e3⟩ := (key r).1 r2
    have qr := (hE.mem r).1 r1
    rw [e1] at qr
    exact Prod.ext e1 (rep_alone h hi qr q e2 h1)
/-- What each told one is. -/
theorem td_each {nm : List Int} {en : Nat → Nat} (h : EnP nm en) {p : Nat × List Nat} (hp : p ∈ tdL nm en (eachL nm en)) : 2 ≤ p.1 ∧ 2 ≤ p.2.length ∧ p.2.length ≤ nm.length ∧ p.1 ≤ nm.length ∧ p.2.Pairwise fun a b => a < b := by
  obtain ⟨r, hr, rfl⟩ := List.mem_map.1 hp
  obtain ⟨q1, q2, q3, q4, q5⟩ := (each_mem h r).1 hr
  have := h.le r.2 q1
  exact ⟨q2, (plcS_two h q1 q3).2 q4, plcS_few nm en r.2 r.1, by omega, plcS_sorted nm en r.2 r.1⟩
/-- The pairs of the told ones' places. -/
def sqP (T : List (Nat × List Nat)) : Nat := (T.map fun p => p.2.length * (p.2.length - 1)).sum
theorem sqP_snoc (T : List (Nat × List Nat)) (p : Nat × List Nat) : sqP (T ++ [p]) = sqP T + p.2.length * (p.2.length - 1) := by simp [sqP]
theorem sqP_few {M : Nat} : ∀ {T : List (Nat × List Nat)}, (∀ p, p ∈ T → p.2.length ≤ M) → sqP T ≤ T.length * (M * M)
  | [], _ => by simp [sqP]
  | p :: T, h => by
    have h1 := sqP_few (M := M) (T := T) fun q hq => h q (by simp [hq])
    have h2 : p.2.length ≤ M := h p (by simp)
    have h3 : p.2.length * (p.2.length - 1) ≤ M * M := Nat.mul_le_mul h2 (by omega)
    have h4 : sqP (p :: T) = p.2.length * (p.2.length - 1) + sqP T := by simp [sqP]
    rw [h4, List.length_cons, Nat.add_mul]
    omega
/-- The pairs of all blocks. -/
def prB (nm : List Int) (en : Nat → Nat) (bd : Nat → Nat) (b c : Nat) : Nat := smO nm en (bd b) (bd c) (bd (c + 1) - bd c) (bd (b + 1) - bd b)
def prI (nm : List Int) (en : Nat → Nat) (bd : Nat → Nat) (b n : Nat) : Nat := sumR n fun c => prB nm en bd b c
def prO (nm : List Int) (en : Nat → Nat) (bd : Nat → Nat) (q n : Nat) : Nat := sumR n fun b => prI nm en bd b q
theorem prI_succ (nm : List Int) (en : Nat → Nat) (bd : Nat → Nat) (b n : Nat) : prI nm en bd b (n + 1) = prI nm en bd b n + prB nm en bd b n := rfl
theorem prO_succ (nm : List Int) (en : Nat → Nat) (bd : Nat → Nat) (q n : Nat) : prO nm en bd q (n + 1) = prO nm en bd q n + prI nm en bd n q := rfl
theorem pr_all {nm : List Int} {en : Nat → Nat} (h : EnP nm en) {bd : Nat → Nat} {q : Nat} (h0 : bd 0 = 0) (hm : ∀ j, bd j ≤ bd (j + 1)) (hq : bd q = nm.length) : prO nm en bd q q = sqP (tdL nm en (eachL nm en)) := by
  have e1 : prO nm en bd q q = sumR q fun b => sumR q fun c => sumR (bd (b + 1) - bd b) fun s => sumR (bd (c + 1) - bd c) fun t => cntE nm en (bd b + s) (bd c + t) := rfl
  rw [e1, sumR_pairsB (fun i k => cntE nm en i k) h0 hm q, hq, ← rep_sum h (each_is h)]
  unfold sqP tdL
  rw [List.map_map]
  rfl
theorem prB_few {nm : List Int} {en : Nat → Nat} (hl : nm.length ≤ 64) {bd : Nat → Nat} (hb : ∀ j, bd j ≤ nm.length) (b c : Nat) : prB nm en bd b c ≤ 262144 := smO_few hl (by have := hb (c + 1); omega) (by have := hb (b + 1); omega)
theorem prI_few {nm : List Int} {en : Nat → Nat} (hl : nm.length ≤ 64) {bd : Nat → Nat} (hb : ∀ j, bd j ≤ nm.length) (b : Nat) {n : Nat} (hn : n ≤ 64) : prI nm en bd b n ≤ 16777216 := by
  have h := sumR_le (f := fun c => prB nm en bd b c) (M := 262144) (n := n) fun c _ => prB_few hl hb b c
  have : n * 262144 ≤ 64 * 262144 := Nat.mul_le_mul_right _ hn
  unfold prI
  omega
theorem prO_few {nm : List Int} {en : Nat → Nat} (hl : nm.length ≤ 64) {bd : Nat → Nat} (hb : ∀ j, bd j ≤ nm.length) {q n : Nat} (hq : q ≤ 64) (hn : n ≤ 64) : prO nm en bd q n ≤ 1073741824 := by
  have h := sumR_le (f := fun b => prI nm en bd b q) (M := 16777216) (n := n) fun b _ => prI_few hl hb b hq
  have : n * 16777216 ≤ 64 * 16777216 := Nat.mul_le_mul_right _ hn
  unfold prO
  omega

end Go.Proofs.Ytokhclindfipbaa

namespace Go.Proofs.Ytokhclindfipbaa
open Go.RowKit

def PlcN (E : Int) (w : World) (e : Ending) (w' : World) : Prop := e = .returned (.tuple #[.slice none 0 0, .int .i64 E]) ∧ Below w.heap.size w w'
def PlyP (T : List Nat) (w : World) (e : Ending) (w' : World) : Prop := ∃ (O : Option Addr) (c : Nat), e = .returned (.tuple #[.slice O T.length c, .int .i64 0]) ∧ w'.ownsRow w.heap.size 3 1 (.slice O T.length c) T.length (iVals .i64 (nV64 T)) ∧ Below w.heap.size w w'
set_option maxRecDepth 100000 in
set_option maxHeartbeats 4000000 in
theorem pplaces_no (A1 A2 : Option Addr) (c1 ml c2 : Nat) (ent at' ln : Int) (text : List Int) (w : World) (hT : IntsAt w A1 .u32 text) (hR : ∀ i, i < text.length → 0 ≤ nth text i ∧ nth text i < 4294967296) (hl : text.length ≤ 1048576) (hm : ml ≤ 1048576) (hE : (checkI text ml ent).1 ≠ 0) :
    Calls Try.prog 15 #[.agg #[.slice A1 text.length c1, .int .i64 ent, .slice A2 ml c2], .int .i64 at', .int .i64 ln] w (PlcN (checkI text ml ent).1 w) := by
  obtain ⟨X, hX⟩ : ∃ X, w.alloc (.cells #[.slice A1 text.length c1, .int .i64 ent, .slice A2 ml c2] 25) = X := ⟨_, rfl⟩
  have hB : Below w.heap.size w X := by rw [← hX]; exact lb_alloc (Below.refl _ _) _
  have i0 : X.cell? ⟨w.heap.size, 0, none⟩ = some (.slice A1 text.length c1) := by rw [← hX]; simp [go_sem]
  have i1 : X.cell? ⟨w.heap.size, 1, none⟩ = some (.int .i64 ent) := by rw [← hX]; simp [go_sem]
  have i2 : X.cell? ⟨w.heap.size, 2, none⟩ = some (.slice A2 ml c2) := by rw [← hX]; simp [go_sem]
  have HX : Hid _ := hX
  have HB : Hid (Below w.heap.size w X) := hB

  have C := rows_no A1 A2 c1 ml c2 ent text X (hT.keep hB) hR hl hm hE
  have hne : ((checkI text ml ent).1 != 0) = true := by simpa using hE
  clear hT hR hX hE hB
  generalize (checkI text ml ent).1 = E at *
  go_enter Try.func15, Try.ntmps15
  go_upto_region 1 with fail
  rw [HX.out]
  clear HX
  go_wp2_with (go_at_call 28; refine C.mono ?_; rintro e w1 ⟨rfl, hb1⟩; have HB1 : Hid (Below w.heap.size w w1) := lb_trans HB.out hb1; clear hb1)
  go_ret2
  exact ⟨rfl, HB1.out⟩
set_option maxRecDepth 100000 in
set_option maxHeartbeats 8000000 in
theorem pplaces_arg (A1 A2 : Option Addr) (c1 ml c2 : Nat) (ent at' ln : Int) (text : List Int) (w : World) (hT : IntsAt w A1 .u32 text) (hR : ∀ i, i < text.length → 0 ≤ nth text i ∧ nth text i < 4294967296) (hl : text.length ≤ 2048) (hm : ml ≤ 1048576) (hE : (checkI text ml ent).1 = 0) (h0 : 0 < text.length) (ha : -9223372036854775808 ≤ at' ∧ at' ≤ 9223372036854775807)
    (nm : List Int) (hnm : numL text text.length = nm) (en : Nat → Nat) (hen : enK (begF text ent) text.length = en) (hn : ln < 2 ∨ hrB nm en at' ln = false) :
    Calls Try.prog 15 #[.agg #[.slice A1 text.length c1, .int .i64 ent, .slice A2 ml c2], .int .i64 at', .int .i64 ln] w (PlcN 1 w) := by
  have HEn : Hid (EnP nm en) := by
    have := enK_ok (f := begF text ent) (nm := nm)
    rw [← hnm, numL_len, hen, hnm] at this
    exact this
  have hnl : nm.length = text.length := by rw [← hnm, numL_len]
  obtain ⟨X, hX⟩ : ∃ X, w.alloc (.cells #[.slice A1 text.length c1, .int .i64 ent, .slice A2 ml c2] 25) = X := ⟨_, rfl⟩
  have hB : Below w.heap.size w X := by rw [← hX]; exact lb_alloc (Below.refl _ _) _
  have i0 : X.cell? ⟨w.heap.size, 0, none⟩ = some (.slice A1 text.length c1) := by rw [← hX]; simp [go_sem]
  have i1 : X.cell? ⟨w.heap.size, 1, none⟩ = some (.int .i64 ent) := by rw [← hX]; simp [go_sem]
  have i2 : X.cell? ⟨w.heap.size, 2, none⟩ = some (.slice A2 ml c2) := by rw [← hX]; simp [go_sem]
  have HX : Hid _ := hX
  have HB : Hid (Below w.heap.size w X) := hB

  have C := rows_ok A1 A2 c1 ml c2 ent text X (hT.keep hB) hR hl hm hE h0
  unfold RowOk at C
  rw [hnm, hen] at C
  have HRM : Hid (∀ (B : Nat) (S1 S2 S3 S4 : Option Addr) (k1 k2 k3 k4 : Nat) (W : World), RwS W B S1 S2 S3 S4 k1 k2 k3 k4 nm en → Calls Try.prog 29 #[.pointer (some ⟨B, 0, none⟩), .int .i64 at', .int .i64 ln] W fun e w' => e = .returned (.bool (hrB nm en at' ln)) ∧ w' = W) := fun B S1 S2 S3 S4 k1 k2 k3 k4 W h => room_any B S1 S2 S3 S4 k1 k2 k3 k4 nm en at' ln W h HEn.out (by omega) ha
  clear hT hR hX hE hnm hen hnl hB
  generalize hrB nm en at' ln = b at *
  by_cases h2 : ln < 2
  · clear hn HRM
    go_enter Try.func15, Try.ntmps15
    go_upto_region 1 with fail
    rw [HX.out]
    clear HX
    go_wp2_with (go_at_call 28; refine C.mono ?_; rintro e w1 ⟨B, S1, S2, S3, S4, k1, k2, k3, k4, rfl, -, -, -, hb1⟩; have HB1 : Hid (Below w.heap.size w w1) := lb_trans HB.out hb1; clear hb1)
    go_ret2
    exact ⟨rfl, HB1.out⟩
  · have hb : b = false := by rcases hn with x | x; exact absurd x h2; exact x
    subst hb
    clear hn
    go_enter Try.func15, Try.ntmps15
    go_upto_region 1 with fail
    rw [HX.out]
    clear HX
    go_upto_region 4 with (go_at_call 28; refine C.mono ?_; rintro e w1 ⟨B, S1, S2, S3, S4, k1, k2, k3, k4, rfl, -, hS, -, hb1⟩; have HB1 : Hid (Below w.heap.size w w1) := lb_trans HB.out hb1; have CR := HRM.out _ _ _ _ _ _ _ _ _ _ hS; clear hb1 hS)
    go_wp2_with (go_at_call 29; refine CR.mono ?_; rintro e w2 ⟨rfl, e1⟩; have e2 := e1.symm; clear e1; subst e2)
    go_ret2
    exact ⟨rfl, HB1.out⟩
set_option maxRecDepth 100000 in
set_option maxHeartbeats 8000000 in
theorem pplaces_ok (A1 A2 : Option Addr) (c1 ml c2 : Nat) (ent : Int) (k n : Nat) (text : List Int) (w : World) (hT : IntsAt w A1 .u32 text) (hR : ∀ i, i < text.length → 0 ≤ nth text i ∧ nth text i < 4294967296) (hl : text.length ≤ 2048) (hm : ml ≤ 1048576) (hE : (checkI text ml ent).1 = 0) (h0 : 0 < text.length)
    (nm : List Int) (hnm : numL text text.length = nm) (en : Nat → Nat) (hen : enK (begF text ent) text.length = en) (hk : k < nm.length) (hn2 : 2 ≤ n) (hr : k + n ≤ en k) :
    Calls Try.prog 15 #[.agg #[.slice A1 text.length c1, .int .i64 ent, .slice A2 ml c2], .int .i64 (k : Int), .int .i64 (n : Int)] w (PlyP (plcS nm en k n) w) := by
  have HEn : Hid (EnP nm en) := by
    have := enK_ok (f := begF text ent) (nm := nm)
    rw [← hnm, numL_len, hen, hnm] at this
    exact this
  have hnl : nm.length = text.length := by rw [← hnm, numL_len]
  have hle := HEn.out.le k hk
  have hrk := rkN_lt hk
  have hpl : plcR nm en (snth (sufN nm) (rkN nm k)) n = plcS nm en k n := by
    rw [rkN_at hk]
    exact plcR_room HEn.out hk (by rw [cpS_same]; omega) hr
  obtain ⟨X, hX⟩ : ∃ X, w.alloc (.cells #[.slice A1 text.length c1, .int .i64 ent, .slice A2 ml c2] 25) = X := ⟨_, rfl⟩
  have hB : Below w.heap.size w X := by rw [← hX]; exact lb_alloc (Below.refl _ _) _
  have i0 : X.cell? ⟨w.heap.size, 0, none⟩ = some (.slice A1 text.length c1) := by rw [← hX]; simp [go_sem]
  have i1 : X.cell? ⟨w.heap.size, 1, none⟩ = some (.int .i64 ent) := by rw [← hX]; simp [go_sem]
  have i2 : X.cell? ⟨w.heap.size, 2, none⟩ = some (.slice A2 ml c2) := by rw [← hX]; simp [go_sem]
  have HX : Hid _ := hX
  have HB : Hid (Below w.heap.size w X) := hB

  have C := rows_ok A1 A2 c1 ml c2 ent text X (hT.keep hB) hR hl hm hE h0
  unfold RowOk at C
  rw [hnm, hen] at C
  have HRM : Hid (∀ (B : Nat) (S1 S2 S3 S4 : Option Addr) (k1 k2 k3 k4 : Nat) (W : World), RwS W B S1 S2 S3 S4 k1 k2 k3 k4 nm en → Calls Try.prog 29 #[.pointer (some ⟨B, 0, none⟩), .int .i64 (k : Int), .int .i64 (n : Int)] W fun e w' => e = .returned (.bool true) ∧ w' = W) := fun B S1 S2 S3 S4 k1 k2 k3 k4 W h => by
    have := room_any B S1 S2 S3 S4 k1 k2 k3 k4 nm en (k : Int) (n : Int) W h HEn.out (by omega) (by omega)
    rw [hrB_nat HEn.out hk, decide_eq_true hr] at this
    exact this
  have HPL : Hid (∀ (B : Nat) (S1 S2 S3 S4 : Option Addr) (k1 k2 k3 k4 : Nat) (W : World), RwS W B S1 S2 S3 S4 k1 k2 k3 k4 nm en → Calls Try.prog 30 #[.pointer (some ⟨B, 0, none⟩), .int .i64 ((rkN nm k : Nat) : Int), .int .i64 (n : Int)] W (GthP (plcS nm en k n) W)) := fun B S1 S2 S3 S4 k1 k2 k3 k4 W h => by
    have := places_any B S1 S2 S3 S4 k1 k2 k3 k4 nm en (rkN nm k) n W h HEn.out (by omega) hrk (by omega)
    rw [hpl] at this
    exact this
  have hkn : (k : Int) < (nm.length : Int) := by omega
  have hk0 : (0 : Int) ≤ (k : Int) := by omega
  have hn2' : ¬ (n : Int) < 2 := by omega
  have HNl : Hid (nm.length ≤ 2048) := by unfold Hid; omega
  clear hT hR hX hE hnm hen hnl hB hr hle hpl
  generalize plcS nm en k n = T at *
  go_enter Try.func15, Try.ntmps15
  go_upto_region 1 with fail
  rw [HX.out]
  clear HX
  go_upto_region 4 with (go_at_call 28; refine C.mono ?_; rintro e w1 ⟨B, S1, S2, S3, S4, k1, k2, k3, k4, rfl, -, hS, -, hb1⟩; have HB1 : Hid (Below w.heap.size w w1) := lb_trans HB.out hb1; have HS : Hid (RwS w1 B S1 S2 S3 S4 k1 k2 k3 k4 nm en) := hS; have CR := HRM.out _ _ _ _ _ _ _ _ _ _ hS; have CP := HPL.out _ _ _ _ _ _ _ _ _ _ hS; clear hb1 hS)
  have f2 := HS.out.f2
  obtain ⟨a, ea, q⟩ := HS.out.r2 k (by rw [rkL_len]; exact hk)
  subst ea
  rw [rkL_nth hk] at q
  clear HRM HPL C HEn
  generalize rkN nm k = r at *
  go_upto_region 6 with (go_at_call 29; refine CR.mono ?_; rintro e w2 ⟨rfl, e1⟩; have e2 := e1.symm; clear e1; subst e2)
  go_wp2_with (go_at_call 30; refine CP.mono ?_; rintro e w3 ⟨O, c, rfl, hr3, hb3⟩; have HR3 : Hid (w3.ownsRow w1.heap.size 3 1 (.slice O T.length c) T.length (iVals .i64 (nV64 T))) := hr3; have HB3 : Hid (Below w1.heap.size w1 w3) := hb3; clear hr3 hb3)
  go_ret2
  exact ⟨O, c, rfl, ownsRow_mono HR3.out HB1.out.size, lb_trans HB1.out HB3.out⟩

end Go.Proofs.Ytokhclindfipbaa

namespace Go.Proofs.Ytokhclindfipbaa
open Go.RowKit

def T7 : List Int := [142606341, 1879572482, 142606341, 1879572482, 142606341, 1879572482, 2818572288]
def N7 : List Int := [0, 1, 0, 1, 0, 1, 2]
def e7 : Nat → Nat := enK (begF T7 0) 7
theorem T7_check : (checkI T7 0 0).1 = 0 := by kernel_rfl
theorem T7_num : numL T7 T7.length = N7 := by kernel_rfl
theorem T7_range : ∀ i, i < T7.length → 0 ≤ nth T7 i ∧ nth T7 i < 4294967296 := by decide
theorem N7_suf : sufN N7 = [0, 2, 4, 1, 3, 5, 6] := (sufN_uniq ⟨by decide, by decide⟩).symm
def cpZ (A : List Nat) (l : List Int) (r : Nat) : Nat := if r = 0 then 0 else cpS l (snth A (r - 1)) (snth A r)
def rowZ (A : List Nat) (nm : List Int) (en : Nat → Nat) (f n : Nat) : List (Nat × Nat) := ((List.range n).filter fun n => decide (max 2 (cpZ A nm f + 1) ≤ n) && decide (2 ≤ (plcR nm en (snth A f) n).length)).map fun n => (n, snth (plcR nm en (snth A f) n) 0)
def preZ (A : List Nat) (nm : List Int) (en : Nat → Nat) : Nat → List (Nat × Nat)
  | 0 => []
  | f + 1 => preZ A nm en f ++ rowZ A nm en f (nm.length + 1)
theorem preZ_is (nm : List Int) (en : Nat → Nat) : ∀ k, preE nm en k = preZ (sufN nm) nm en k
  | 0 => rfl
  | k + 1 => by rw [preE, preZ, preZ_is nm en k]; rfl
theorem N7_each : eachL N7 e7 = [(2, 0), (3, 0), (4, 0), (2, 1), (3, 1)] := by
  unfold eachL
  rw [preZ_is, N7_suf]
  kernel_rfl
theorem N7_td : tdL N7 e7 (eachL N7 e7) = [(2, [0, 2, 4]), (3, [0, 2]), (4, [0, 2]), (2, [1, 3]), (3, [1, 3])] := by
  rw [N7_each]
  kernel_rfl
theorem N7_few : (eachL N7 e7).length = 5 ∧ smP (tdL N7 e7 (eachL N7 e7)) = 11 := by
  rw [N7_td, N7_each]
  decide
theorem N7_plc : plcS N7 e7 1 2 = [1, 3] := by kernel_rfl
theorem N7_end : e7 1 = 7 ∧ hrB N7 e7 3 5 = false := ⟨by kernel_rfl, by kernel_rfl⟩

end Go.Proofs.Ytokhclindfipbaa
