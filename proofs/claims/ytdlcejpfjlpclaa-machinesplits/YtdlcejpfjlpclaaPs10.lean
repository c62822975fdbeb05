/-
  The small functions of package isa, each by what it returns; conditions: an op is an int8's number. Whether the fields of an instruction may be: allow of package isa, for every op that there is; no other condition. Words of 32 bits: fields side by side, and masks; no Go in sight. Decode of the document's answer returns the instruction that a word is, or none, for every word of 32 bits; no other condition. The table of the ops' fields, as the program makes it anew, and what is read of it; no condition.
-/
import Derived.Test.YtdlcejpfjlpclaaProg
import Derived.Laws.BitsAllLaws
import Derived.Test.YtdlcejpfjlpclaaPs09
import Derived.Deep.DeepCutAuto
import Derived.Test.YtdlcejpfjlpclaaPs02
import Derived.Laws.Tables
import Derived.Laws.Rows
import Derived.Laws.CopyOwn
import Derived.Great.BuildSlice
namespace Go.Proofs.Ytdlcejpfjlpclaa
open Go.RowKit

theorem known_any (op : Int) (h8 : op ≤ 127) (w : World) : Calls Try.prog 34 #[.int .i8 op] w fun e w' => e = .returned (.bool (decide (0 ≤ op ∧ op ≤ 21))) ∧ w' = w := by
  by_cases h : op < 0
  · rw [show decide (0 ≤ op ∧ op ≤ 21) = false from decide_eq_false (by omega)]
    go_enter Try.func34, Try.ntmps34
    go_wp2
    go_ret
    exact ⟨rfl, rfl⟩
  by_cases h2 : op < 22
  · rw [show decide (0 ≤ op ∧ op ≤ 21) = true from decide_eq_true (by omega)]
    go_enter Try.func34, Try.ntmps34
    go_wp2
    go_ret
    exact ⟨by first | rfl | (simp [h2]; done), rfl⟩
  · rw [show decide (0 ≤ op ∧ op ≤ 21) = false from decide_eq_false (by omega)]
    go_enter Try.func34, Try.ntmps34
    go_wp2
    go_ret
    exact ⟨by first | rfl | (simp [h2]; done), rfl⟩

/-- The fields of the ops, as bits. -/
def shL : List Int := [0, 9, 3, 7, 7, 7, 7, 7, 7, 7, 7, 11, 14, 1, 10, 24, 26, 24, 2, 2, 25, 0]
def sh (op : Int) : Int := shL.getD op.toNat 0

theorem fhas_any (f o : Int) (w : World) : Calls Try.prog 52 #[.int .u8 f, .int .u8 o] w fun e w' => e = .returned (.bool (bits .and .u8 f o != 0)) ∧ w' = w := by
  go_enter Try.func52, Try.ntmps52
  go_wp2
  go_ret
  exact ⟨rfl, rfl⟩

theorem signed_any (n : Int) (h0 : 0 ≤ n) (h1 : n < 4294967296) (w : World) : Calls Try.prog 30 #[.int .u32 n] w fun e w' => e = .returned (.int .i64 (if 16383 < n then n - 32768 else n)) ∧ w' = w := by
  by_cases h : 16383 < n
  · rw [if_pos h]
    go_enter Try.func30, Try.ntmps30
    go_wp2
    go_ret
    exact ⟨rfl, rfl⟩
  · rw [if_neg h]
    go_enter Try.func30, Try.ntmps30
    go_wp2
    go_ret
    exact ⟨rfl, rfl⟩

theorem fregister_any (f o r : Int) (h : Bool) (hh : (bits .and .u8 f o != 0) = h) (w : World) : Calls Try.prog 54 #[.int .u8 f, .int .u8 o, .int .i8 r] w fun e w' => e = .returned (.bool (regOK h r)) ∧ w' = w := by
  have C : ∀ wx : World, Calls Try.prog 52 #[.int .u8 f, .int .u8 o] wx fun e w' => e = .returned (.bool h) ∧ w' = wx := fun wx => by
    have k := fhas_any f o wx
    rw [hh] at k; exact k
  clear hh
  unfold regOK
  cases h
  · go_enter Try.func54, Try.ntmps54
    go_wp2_with (go_at_call 52; refine (C _).mono ?_; rintro e w1 ⟨rfl, rfl⟩)
    go_ret
    exact ⟨by first | rfl | (simp; done) | (simp; omega), rfl⟩
  · by_cases h1 : 0 ≤ r
    · go_enter Try.func54, Try.ntmps54
      go_wp2_with (go_at_call 52; refine (C _).mono ?_; rintro e w1 ⟨rfl, rfl⟩)
      go_ret
      exact ⟨by first | rfl | (simp; done) | (simp; omega), rfl⟩
    · go_enter Try.func54, Try.ntmps54
      go_wp2_with (go_at_call 52; refine (C _).mono ?_; rintro e w1 ⟨rfl, rfl⟩)
      go_ret
      exact ⟨by first | rfl | (simp; done) | (simp; omega), rfl⟩

def loN (n p : Bool) : Int := if p then 0 else if n then -16384 else 0
def hiN (n p : Bool) : Int := if p then 16383 else if n then 16383 else 0

theorem frange_any (f : Int) (n p : Bool) (hn : (bits .and .u8 f 8 != 0) = n) (hp : (bits .and .u8 f 16 != 0) = p) (w : World) : Calls Try.prog 53 #[.int .u8 f] w fun e w' => e = .returned (.tuple #[.int .i64 (loN n p), .int .i64 (hiN n p)]) ∧ w' = w := by
  have C1 : ∀ wx : World, Calls Try.prog 52 #[.int .u8 f, .int .u8 8] wx fun e w' => e = .returned (.bool n) ∧ w' = wx := fun wx => by
    have k := fhas_any f 8 wx
    rw [hn] at k; exact k
  have C2 : ∀ wx : World, Calls Try.prog 52 #[.int .u8 f, .int .u8 16] wx fun e w' => e = .returned (.bool p) ∧ w' = wx := fun wx => by
    have k := fhas_any f 16 wx
    rw [hp] at k; exact k
  clear hn hp
  unfold loN hiN
  cases p
  · cases n
    · go_enter Try.func53, Try.ntmps53
      go_wp2_with fail
      refine (C2 _).mono ?_
      rintro e w1 ⟨rfl, rfl⟩
      go_wp2_with fail
      refine (C1 _).mono ?_
      rintro e w1 ⟨rfl, rfl⟩
      go_wp2
      go_ret2
      exact ⟨rfl, rfl⟩
    · go_enter Try.func53, Try.ntmps53
      go_wp2_with fail
      refine (C2 _).mono ?_
      rintro e w1 ⟨rfl, rfl⟩
      go_wp2_with fail
      refine (C1 _).mono ?_
      rintro e w1 ⟨rfl, rfl⟩
      go_wp2
      go_ret2
      exact ⟨rfl, rfl⟩
  · go_enter Try.func53, Try.ntmps53
    go_wp2_with fail
    refine (C2 _).mono ?_
    rintro e w1 ⟨rfl, rfl⟩
    go_wp2
    go_ret2
    exact ⟨rfl, rfl⟩

theorem sh_bits (op : Int) (h0 : 0 ≤ op) (h1 : op ≤ 21) : (bits .and .u8 (sh op) 1 != 0) = hD op ∧ (bits .and .u8 (sh op) 2 != 0) = hA op ∧ (bits .and .u8 (sh op) 4 != 0) = hB op ∧ (bits .and .u8 (sh op) 8 != 0) = hN op ∧ (bits .and .u8 (sh op) 16 != 0) = hP op := by
  have h : ∀ k : Fin 22, (bits .and .u8 (sh (k.val : Int)) 1 != 0) = hD k.val ∧ (bits .and .u8 (sh (k.val : Int)) 2 != 0) = hA k.val ∧ (bits .and .u8 (sh (k.val : Int)) 4 != 0) = hB k.val ∧ (bits .and .u8 (sh (k.val : Int)) 8 != 0) = hN k.val ∧ (bits .and .u8 (sh (k.val : Int)) 16 != 0) = hP k.val := by decide +kernel
  have k := h ⟨op.toNat, by omega⟩
  simp only [Int.toNat_of_nonneg h0] at k
  exact k

theorem num_lohi (n p : Bool) (hpn : p = true → n = true) (x : Int) : (decide (loN n p ≤ x) && decide (x ≤ hiN n p)) = numOK n p x := by
  unfold loN hiN numOK
  cases n <;> cases p <;> simp at hpn ⊢ <;> (rw [Bool.eq_iff_iff]; simp; omega)

theorem hP_hN (op : Int) : hP op = true → hN op = true := by
  unfold hP hN; simp; omega



end Go.Proofs.Ytdlcejpfjlpclaa

namespace Go.Proofs.Ytdlcejpfjlpclaa
open Go.RowKit


set_option maxRecDepth 100000 in
set_option maxHeartbeats 1000000 in
theorem allow_of (f x d a b n lo hi : Int) (rd ra rb : Bool) (w : World)
    (CR : ∀ wx : World, Calls Try.prog 53 #[.int .u8 f] wx fun e w' => e = .returned (.tuple #[.int .i64 lo, .int .i64 hi]) ∧ w' = wx)
    (C1 : ∀ wx : World, Calls Try.prog 54 #[.int .u8 f, .int .u8 1, .int .i8 d] wx fun e w' => e = .returned (.bool rd) ∧ w' = wx)
    (C2 : ∀ wx : World, Calls Try.prog 54 #[.int .u8 f, .int .u8 2, .int .i8 a] wx fun e w' => e = .returned (.bool ra) ∧ w' = wx)
    (C4 : ∀ wx : World, Calls Try.prog 54 #[.int .u8 f, .int .u8 4, .int .i8 b] wx fun e w' => e = .returned (.bool rb) ∧ w' = wx) :
    Calls Try.prog 36 #[.int .u8 f, .agg #[.int .i8 x, .int .i8 d, .int .i8 a, .int .i8 b, .int .i64 n]] w fun e w' => e = .returned (.bool (rd && ra && rb && (decide (lo ≤ n) && decide (n ≤ hi)))) ∧ w' = w.alloc (.cells #[.int .i8 x, .int .i8 d, .int .i8 a, .int .i8 b, .int .i64 n] 58) := by
  cases rd with
  | false =>
    go_enter Try.func36, Try.ntmps36
    go_wp2_with fail
    refine (CR _).mono ?_
    rintro e w1 ⟨rfl, rfl⟩
    go_wp2_with fail
    refine (C1 _).mono ?_
    rintro e w1 ⟨rfl, rfl⟩
    go_wp2
    go_ret
    exact ⟨by first | rfl | (simp [*]; done) | (simp [*]; omega), rfl⟩
  | true =>
  cases ra with
  | false =>
    go_enter Try.func36, Try.ntmps36
    go_wp2_with fail
    refine (CR _).mono ?_
    rintro e w1 ⟨rfl, rfl⟩
    go_wp2_with fail
    refine (C1 _).mono ?_
    rintro e w1 ⟨rfl, rfl⟩
    go_wp2_with fail
    refine (C2 _).mono ?_
    rintro e w1 ⟨rfl, rfl⟩
    go_wp2
    go_ret
    exact ⟨by first | rfl | (simp [*]; done) | (simp [*]; omega), rfl⟩
  | true =>
  cases rb with
  | false =>
    go_enter Try.func36, Try.ntmps36
    go_wp2_with fail
    refine (CR _).mono ?_
    rintro e w1 ⟨rfl, rfl⟩
    go_wp2_with fail
    refine (C1 _).mono ?_
    rintro e w1 ⟨rfl, rfl⟩
    go_wp2_with fail
    refine (C2 _).mono ?_
    rintro e w1 ⟨rfl, rfl⟩
    go_wp2_with fail
    refine (C4 _).mono ?_
    rintro e w1 ⟨rfl, rfl⟩
    go_wp2
    go_ret
    exact ⟨by first | rfl | (simp [*]; done) | (simp [*]; omega), rfl⟩
  | true =>
  by_cases hl : lo ≤ n
  · go_enter Try.func36, Try.ntmps36
    go_wp2_with fail
    refine (CR _).mono ?_
    rintro e w1 ⟨rfl, rfl⟩
    go_wp2_with fail
    refine (C1 _).mono ?_
    rintro e w1 ⟨rfl, rfl⟩
    go_wp2_with fail
    refine (C2 _).mono ?_
    rintro e w1 ⟨rfl, rfl⟩
    go_wp2_with fail
    refine (C4 _).mono ?_
    rintro e w1 ⟨rfl, rfl⟩
    go_wp2
    go_ret
    exact ⟨by first | rfl | (simp [*]; done) | (simp [*]; omega), rfl⟩
  · go_enter Try.func36, Try.ntmps36
    go_wp2_with fail
    refine (CR _).mono ?_
    rintro e w1 ⟨rfl, rfl⟩
    go_wp2_with fail
    refine (C1 _).mono ?_
    rintro e w1 ⟨rfl, rfl⟩
    go_wp2_with fail
    refine (C2 _).mono ?_
    rintro e w1 ⟨rfl, rfl⟩
    go_wp2_with fail
    refine (C4 _).mono ?_
    rintro e w1 ⟨rfl, rfl⟩
    go_wp2
    go_ret
    exact ⟨by first | rfl | (simp [*]; done) | (simp [*]; omega), rfl⟩

theorem allow_any (op x d a b n : Int) (h0 : 0 ≤ op) (h1 : op ≤ 21) (w : World) : Calls Try.prog 36 #[.int .u8 (sh op), .agg #[.int .i8 x, .int .i8 d, .int .i8 a, .int .i8 b, .int .i64 n]] w fun e w' => e = .returned (.bool (insOK op d a b n)) ∧ w' = w.alloc (.cells #[.int .i8 x, .int .i8 d, .int .i8 a, .int .i8 b, .int .i64 n] 58) := by
  obtain ⟨b1, b2, b4, b8, b16⟩ := sh_bits op h0 h1
  have h := allow_of (sh op) x d a b n _ _ _ _ _ w (frange_any (sh op) _ _ b8 b16) (fregister_any (sh op) 1 d _ b1) (fregister_any (sh op) 2 a _ b2) (fregister_any (sh op) 4 b _ b4)
  rw [num_lohi _ _ (hP_hN op)] at h
  exact h



end Go.Proofs.Ytdlcejpfjlpclaa

namespace Go.Proofs.Ytdlcejpfjlpclaa
open Go.RowKit

theorem or_add (X y q : Int) (k : Nat) (hX : X = (2 : Int) ^ k * q) (h0 : 0 ≤ q) (h1 : 0 ≤ y) (h2 : y < (2 : Int) ^ k) (h3 : X + y < 4294967296) : bits .or .u32 X y = X + y := by
  have hp : (0 : Int) < (2 : Int) ^ k := Int.pow_pos (by omega)
  have hX0 : 0 ≤ X := by rw [hX]; exact Int.mul_nonneg (Int.le_of_lt hp) h0
  obtain ⟨Q, rfl⟩ := Int.eq_ofNat_of_zero_le h0
  obtain ⟨Y, rfl⟩ := Int.eq_ofNat_of_zero_le h1
  rw [u32_or X Y hX0 (by omega) (by omega) (by omega)]
  have e : X.toNat = 2 ^ k * Q := by
    rw [hX]
    have : ((2 : Int) ^ k * (Q : Int)) = ((2 ^ k * Q : Nat) : Int) := by simp
    rw [this]; exact Int.toNat_natCast _
  have hy : Y < 2 ^ k := by
    have : ((2 ^ k : Nat) : Int) = (2 : Int) ^ k := by simp
    omega
  rw [Int.toNat_natCast, e, ← Nat.two_pow_add_eq_or_of_lt hy]
  rw [hX]; simp

theorem mask_mid (x : Int) (k : Nat) (m : Nat) (hm : m = 15 * 2 ^ k) (hm4 : m < 4294967296) (h0 : 0 ≤ x) (h1 : x < 4294967296) : bits .and .u32 x (m : Int) = x / (2 : Int) ^ k % 16 * (2 : Int) ^ k := by
  rw [u32_and x m h0 h1 (by omega) (by omega)]
  obtain ⟨X, rfl⟩ := Int.eq_ofNat_of_zero_le h0
  rw [Int.toNat_natCast, Int.toNat_natCast]
  have e : X &&& m = X / 2 ^ k % 16 * 2 ^ k := by
    have d := Nat.div_add_mod (X &&& m) (2 ^ k)
    have q : (X &&& m) / 2 ^ k = X / 2 ^ k % 16 := by
      rw [Nat.and_div_two_pow, hm, Nat.mul_div_cancel _ (Nat.two_pow_pos k)]
      exact Nat.and_two_pow_sub_one_eq_mod (X / 2 ^ k) 4
    have r : (X &&& m) % 2 ^ k = 0 := by
      rw [Nat.and_mod_two_pow, hm, Nat.mul_mod_left, Nat.and_zero]
    rw [q, r] at d
    rw [← d]; simp [Nat.mul_comm]
  rw [e]; simp



end Go.Proofs.Ytdlcejpfjlpclaa

namespace Go.Proofs.Ytdlcejpfjlpclaa
open Go.RowKit

theorem and15 (x : Int) (h0 : 0 ≤ x) (h1 : x < 4294967296) : bits .and .u32 x 15 = x % 16 := by
  rw [u32_and x 15 h0 h1 (by omega) (by omega)]
  have e : x.toNat &&& (15 : Int).toNat = x.toNat % 16 := Nat.and_two_pow_sub_one_eq_mod x.toNat 4
  rw [e]; omega
theorem and32767 (x : Int) (h0 : 0 ≤ x) (h1 : x < 4294967296) : bits .and .u32 x 32767 = x % 32768 := by
  rw [u32_and x 32767 h0 h1 (by omega) (by omega)]
  have e : x.toNat &&& (32767 : Int).toNat = x.toNat % 32768 := Nat.and_two_pow_sub_one_eq_mod x.toNat 15
  rw [e]; omega
theorem dec_yes {v : Int} (h : isIns v = true) : Ending.returned (.agg #[.int .i8 (v / 134217728), .int .i8 (v / 8388608 % 16), .int .i8 (v / 524288 % 16), .int .i8 (v / 32768 % 16), .int .i64 (wN v)]) = .returned (.agg #[.int .i8 (dOp v), .int .i8 (dD v), .int .i8 (dA v), .int .i8 (dB v), .int .i64 (dN v)]) := by
  unfold dOp dD dA dB dN; rw [h]; rfl
theorem dec_no {v : Int} (h : isIns v = false) : Ending.returned (.agg #[.int .i8 (-1), .int .i8 0, .int .i8 0, .int .i8 0, .int .i64 v]) = .returned (.agg #[.int .i8 (dOp v), .int .i8 (dD v), .int .i8 (dA v), .int .i8 (dB v), .int .i64 (dN v)]) := by
  unfold dOp dD dA dB dN; rw [h]; rfl


end Go.Proofs.Ytdlcejpfjlpclaa

namespace Go.Proofs.Ytdlcejpfjlpclaa
open Go.RowKit

def shV : Array Value := #[.int .u8 0, .int .u8 9, .int .u8 3, .int .u8 7, .int .u8 7, .int .u8 7, .int .u8 7, .int .u8 7, .int .u8 7, .int .u8 7, .int .u8 7, .int .u8 11, .int .u8 14, .int .u8 1, .int .u8 10, .int .u8 24, .int .u8 26, .int .u8 24, .int .u8 2, .int .u8 2, .int .u8 25, .int .u8 0]
def zs22 : Array Value := #[.int .u8 0, .int .u8 0, .int .u8 0, .int .u8 0, .int .u8 0, .int .u8 0, .int .u8 0, .int .u8 0, .int .u8 0, .int .u8 0, .int .u8 0, .int .u8 0, .int .u8 0, .int .u8 0, .int .u8 0, .int .u8 0, .int .u8 0, .int .u8 0, .int .u8 0, .int .u8 0, .int .u8 0, .int .u8 0]

theorem heap_new (w : World) (o : Obj) : (w.alloc o).heap[w.heap.size]? = some o := heap_alloc_new w o

theorem shapes_res (w1 : World) (g : Nat) (h : w1.heap[g]? = some (.cells shV 84 (0, 0))) : (results Try.f35 #[.pointer (some ⟨g, 0, none⟩), .agg shV]).run Try.prog w1 = .ok (.agg shV) w1 := by
  have hl := run_loadVar_row (P := Try.prog) w1 g 84 84 shV (0, 0) _ h Try.underlying84 rfl (by kernel_rfl)
  have ha : (asAddr (Value.pointer (some ⟨g, 0, none⟩))).run Try.prog w1 = .ok ⟨g, 0, none⟩ w1 := rfl
  have hm : (results Try.f35 #[.pointer (some ⟨g, 0, none⟩), .agg shV]) = (do
      let vs ← (Try.f35.results.mapM fun
        | .tmp t => pure ((#[Value.pointer (some ⟨g, 0, none⟩), .agg shV] : Array Value).getD t undef)
        | .cell a t => do loadVar t (← asAddr ((#[Value.pointer (some ⟨g, 0, none⟩), .agg shV] : Array Value).getD a undef)) : Sem (Array Value))
      pure (if h : vs.size = 1 then vs[0] else .tuple vs)) := rfl
  rw [hm, Try.results35]
  have hg0 : (#[Value.pointer (some ⟨g, 0, none⟩), Value.agg shV] : Array Value).getD 0 undef = .pointer (some ⟨g, 0, none⟩) := rfl
  simp only [List.mapM_toArray, List.mapM_cons, List.mapM_nil, map_eq_pure_bind, bind_assoc, pure_bind, Sem.run_bind, Sem.run_pure, Result.andThen_ok, hg0, ha, hl]
  rfl

set_option maxRecDepth 100000 in
theorem shapes_any (w : World) : Calls Try.prog 35 #[] w fun e w' => e = .returned (.agg shV) ∧ Below w.heap.size w w' := by
  go_enter Try.func35, Try.ntmps35
  go_upto_region 1 with fail
  rename_i hK
  apply wp_region_lit
  refine wpList_buildTo rfl 84 _ rfl (some 1) rfl shV (by kernel_rfl) ?_
  refine wpList_store_row rfl 84 _ _ rfl w.heap.size shV rfl rfl 84 zs22 (heap_new _ _) (by kernel_rfl) (by kernel_rfl) (by kernel_rfl) ?_
  apply wpList_nil
  refine hK _ _ (wp_ret ?_)
  exact bodyPost_ret (v := .agg shV) (shapes_res _ _ (setRow_heap _ _ zs22 _ _ _ (heap_new _ _))) rfl ⟨rfl, below_setRow (bel_alloc (Below.refl _ _) _) (Nat.le_refl _) _⟩
theorem index_sh0 (w : World) : (Instr.index 84 (.agg shV) (.int .i8 0)).run Try.prog w = .ok (.int .u8 (sh 0)) w := by kernel_rfl
theorem index_sh1 (w : World) : (Instr.index 84 (.agg shV) (.int .i8 1)).run Try.prog w = .ok (.int .u8 (sh 1)) w := by kernel_rfl
theorem index_sh2 (w : World) : (Instr.index 84 (.agg shV) (.int .i8 2)).run Try.prog w = .ok (.int .u8 (sh 2)) w := by kernel_rfl
theorem index_sh3 (w : World) : (Instr.index 84 (.agg shV) (.int .i8 3)).run Try.prog w = .ok (.int .u8 (sh 3)) w := by kernel_rfl
theorem index_sh4 (w : World) : (Instr.index 84 (.agg shV) (.int .i8 4)).run Try.prog w = .ok (.int .u8 (sh 4)) w := by kernel_rfl
theorem index_sh5 (w : World) : (Instr.index 84 (.agg shV) (.int .i8 5)).run Try.prog w = .ok (.int .u8 (sh 5)) w := by kernel_rfl
theorem index_sh6 (w : World) : (Instr.index 84 (.agg shV) (.int .i8 6)).run Try.prog w = .ok (.int .u8 (sh 6)) w := by kernel_rfl
theorem index_sh7 (w : World) : (Instr.index 84 (.agg shV) (.int .i8 7)).run Try.prog w = .ok (.int .u8 (sh 7)) w := by kernel_rfl
theorem index_sh8 (w : World) : (Instr.index 84 (.agg shV) (.int .i8 8)).run Try.prog w = .ok (.int .u8 (sh 8)) w := by kernel_rfl
theorem index_sh9 (w : World) : (Instr.index 84 (.agg shV) (.int .i8 9)).run Try.prog w = .ok (.int .u8 (sh 9)) w := by kernel_rfl
theorem index_sh10 (w : World) : (Instr.index 84 (.agg shV) (.int .i8 10)).run Try.prog w = .ok (.int .u8 (sh 10)) w := by kernel_rfl
theorem index_sh11 (w : World) : (Instr.index 84 (.agg shV) (.int .i8 11)).run Try.prog w = .ok (.int .u8 (sh 11)) w := by kernel_rfl
theorem index_sh12 (w : World) : (Instr.index 84 (.agg shV) (.int .i8 12)).run Try.prog w = .ok (.int .u8 (sh 12)) w := by kernel_rfl
theorem index_sh13 (w : World) : (Instr.index 84 (.agg shV) (.int .i8 13)).run Try.prog w = .ok (.int .u8 (sh 13)) w := by kernel_rfl
theorem index_sh14 (w : World) : (Instr.index 84 (.agg shV) (.int .i8 14)).run Try.prog w = .ok (.int .u8 (sh 14)) w := by kernel_rfl
theorem index_sh15 (w : World) : (Instr.index 84 (.agg shV) (.int .i8 15)).run Try.prog w = .ok (.int .u8 (sh 15)) w := by kernel_rfl
theorem index_sh16 (w : World) : (Instr.index 84 (.agg shV) (.int .i8 16)).run Try.prog w = .ok (.int .u8 (sh 16)) w := by kernel_rfl
theorem index_sh17 (w : World) : (Instr.index 84 (.agg shV) (.int .i8 17)).run Try.prog w = .ok (.int .u8 (sh 17)) w := by kernel_rfl
theorem index_sh18 (w : World) : (Instr.index 84 (.agg shV) (.int .i8 18)).run Try.prog w = .ok (.int .u8 (sh 18)) w := by kernel_rfl
theorem index_sh19 (w : World) : (Instr.index 84 (.agg shV) (.int .i8 19)).run Try.prog w = .ok (.int .u8 (sh 19)) w := by kernel_rfl
theorem index_sh20 (w : World) : (Instr.index 84 (.agg shV) (.int .i8 20)).run Try.prog w = .ok (.int .u8 (sh 20)) w := by kernel_rfl
theorem index_sh21 (w : World) : (Instr.index 84 (.agg shV) (.int .i8 21)).run Try.prog w = .ok (.int .u8 (sh 21)) w := by kernel_rfl
theorem index_sh (op : Int) (h0 : 0 ≤ op) (h1 : op ≤ 21) (w : World) : (Instr.index 84 (.agg shV) (.int .i8 op)).run Try.prog w = .ok (.int .u8 (sh op)) w := by
  have h : op = 0 ∨ op = 1 ∨ op = 2 ∨ op = 3 ∨ op = 4 ∨ op = 5 ∨ op = 6 ∨ op = 7 ∨ op = 8 ∨ op = 9 ∨ op = 10 ∨ op = 11 ∨ op = 12 ∨ op = 13 ∨ op = 14 ∨ op = 15 ∨ op = 16 ∨ op = 17 ∨ op = 18 ∨ op = 19 ∨ op = 20 ∨ op = 21 := by omega
  rcases h with rfl | rfl | rfl | rfl | rfl | rfl | rfl | rfl | rfl | rfl | rfl | rfl | rfl | rfl | rfl | rfl | rfl | rfl | rfl | rfl | rfl | rfl
  · exact index_sh0 w
  · exact index_sh1 w
  · exact index_sh2 w
  · exact index_sh3 w
  · exact index_sh4 w
  · exact index_sh5 w
  · exact index_sh6 w
  · exact index_sh7 w
  · exact index_sh8 w
  · exact index_sh9 w
  · exact index_sh10 w
  · exact index_sh11 w
  · exact index_sh12 w
  · exact index_sh13 w
  · exact index_sh14 w
  · exact index_sh15 w
  · exact index_sh16 w
  · exact index_sh17 w
  · exact index_sh18 w
  · exact index_sh19 w
  · exact index_sh20 w
  · exact index_sh21 w



end Go.Proofs.Ytdlcejpfjlpclaa
