/-
  Package object: Of and At by what they return; the lists are at most 2^20 long.
-/
import Derived.Test.YtbphfgalgiinnaaProg
import Derived.WalkKit
import Derived.WalkSpells
import Derived.WalkLawsBesides
import Derived.RowKit3
import Derived.Below
import Derived.Deep.QuietTactic
import Derived.BigQuiet
import Derived.WalkSmall
import Derived.Test.YtbphfgalgiinnaaObMath
namespace Go.Proofs.Ytbphfgalgiinnaa
open Go.RowKit

theorem mkFn : ∀ (fn : Fn) (first cap : Array Value) (w : World), (Instr.makeFunc fn first cap).run Try.prog w = .ok (.func fn first cap) w := fun _ _ _ _ => rfl
theorem of1_any (n s : ByteArray) (kd at' : Int) (g : Nat) (w : World) (hc : w.cell? ⟨g, 0, none⟩ = some (.string s)) : Calls Try.prog 32 #[.agg #[.string n, .int .i8 kd, .int .i64 at'], .pointer (some ⟨g, 0, none⟩)] w fun e w' => e = .returned (.bool (n.toList == s.toList)) ∧ Below w.heap.size w w' := by
  have hc1 : (w.alloc (.cells #[.string n, .int .i8 kd, .int .i64 at'] 42)).cell? ⟨g, 0, none⟩ = some (.string s) := lkeep (lb_alloc (Below.refl _ _) _) hc
  go_enter Try.func32, Try.ntmps32
  go_wp2
  go_ret
  exact ⟨rfl, lb_alloc (Below.refl _ _) _⟩
theorem at1_any (a b p : Int) (g : Nat) (w : World) (hc : w.cell? ⟨g, 0, none⟩ = some (.int .i64 p)) : Calls Try.prog 34 #[.agg #[.int .i64 a, .int .i64 b], .pointer (some ⟨g, 0, none⟩)] w fun e w' => e = .returned (.bool (a == p)) ∧ Below w.heap.size w w' := by
  have hc1 : (w.alloc (.cells #[.int .i64 a, .int .i64 b] 44)).cell? ⟨g, 0, none⟩ = some (.int .i64 p) := lkeep (lb_alloc (Below.refl _ _) _) hc
  go_enter Try.func34, Try.ntmps34
  go_wp2
  go_ret
  exact ⟨rfl, lb_alloc (Below.refl _ _) _⟩
set_option maxRecDepth 100000 in
set_option maxHeartbeats 1000000 in
theorem idxsym_any (A : Option Addr) (cp : Nat) (zs : List Sym) (s : ByteArray) (g : Nat) (w : World) (hA : SymsAt w A zs) (hc : w.cell? ⟨g, 0, none⟩ = some (.string s)) (hz : zs.length ≤ 1048576) :
    Calls Try.prog 31 #[.slice A zs.length cp, .func (.func 32) #[] #[.pointer (some ⟨g, 0, none⟩)]] w fun e w' => e = .returned (.int .i64 (ofS zs s)) ∧ Below w.heap.size w w' := by
  go_enter Try.func31, Try.ntmps31
  go_wp2
  go_loopw [8] (fun i wr => ∃ k : Nat, i = .int .i64 k ∧ k ≤ zs.length ∧ Below w.heap.size w wr ∧ Hid (ofFrom (zs.drop k) s k = ofS zs s)) (fun i _ => zs.length - (intOf i).toNat)
  case atStart => exact ⟨0, rfl, by omega, Below.refl _ _, rfl⟩
  case round =>
    obtain ⟨k, rfl, hk, hB, HT⟩ := hrel
    rename_i wr _
    have HB : Hid (Below w.heap.size w wr) := hB
    clear hB
    by_cases hlt : k < zs.length
    · obtain ⟨a, rfl, c0, c1', c2'⟩ := (hA.keep HB.out) k hlt
      have d1 : wr.cell? ⟨(a.add (k * 3)).block, (a.add (k * 3)).off + 1, none⟩ = some (.int .i8 (sKind zs k)) := c1'
      have d2 : wr.cell? ⟨(a.add (k * 3)).block, (a.add (k * 3)).off + 2, none⟩ = some (.int .i64 (sAt zs k)) := c2'
      clear c1' c2'
      have hg := lkeep HB.out hc
      have C := of1_any (sName zs k) s (sKind zs k) (sAt zs k) g wr hg
      cases he : ((sName zs k).toList == s.toList) with
      | false =>
        have HE : Hid _ := of_miss hlt he
        rw [he] at C
        clear he
        go_wp2_with (go_at_call 32; refine C.mono ?_; rintro e w2 ⟨rfl, hb2⟩)
        have HB2 : Hid (Below w.heap.size w _) := lb_trans HB.out (by assumption)
        go_roundw
        case rel => exact ⟨k + 1, by go_num, by omega, HB2.out, by rw [Hid, ← HE.out]; exact HT.out⟩
        case measure => simp [intOf]; omega
      | true =>
        have HE : Hid _ := of_hit hlt he
        rw [he] at C
        clear he
        go_wp2_with (go_at_call 32; refine C.mono ?_; rintro e w2 ⟨rfl, hb2⟩)
        have HB2 : Hid (Below w.heap.size w _) := lb_trans HB.out (by assumption)
        go_ret
        exact ⟨retI (by rw [← HT.out, HE.out]), HB2.out⟩
    · have HE : Hid _ := of_end (s := s) (by omega : zs.length ≤ k)
      go_wp2
      go_ret
      exact ⟨retI (by rw [← HT.out, HE.out]), HB.out⟩
set_option maxRecDepth 100000 in
set_option maxHeartbeats 1000000 in
theorem idxrel_any (A : Option Addr) (cp : Nat) (zs : List Rel) (p : Int) (g : Nat) (w : World) (hA : RelsAt w A zs) (hc : w.cell? ⟨g, 0, none⟩ = some (.int .i64 p)) (hz : zs.length ≤ 1048576) :
    Calls Try.prog 33 #[.slice A zs.length cp, .func (.func 34) #[] #[.pointer (some ⟨g, 0, none⟩)]] w fun e w' => e = .returned (.int .i64 (atR zs p)) ∧ Below w.heap.size w w' := by
  go_enter Try.func33, Try.ntmps33
  go_wp2
  go_loopw [8] (fun i wr => ∃ k : Nat, i = .int .i64 k ∧ k ≤ zs.length ∧ Below w.heap.size w wr ∧ Hid (atFrom (zs.drop k) p k = atR zs p)) (fun i _ => zs.length - (intOf i).toNat)
  case atStart => exact ⟨0, rfl, by omega, Below.refl _ _, rfl⟩
  case round =>
    obtain ⟨k, rfl, hk, hB, HT⟩ := hrel
    rename_i wr _
    have HB : Hid (Below w.heap.size w wr) := hB
    clear hB
    by_cases hlt : k < zs.length
    · obtain ⟨a, rfl, c0, c1'⟩ := (hA.keep HB.out) k hlt
      have d1 : wr.cell? ⟨(a.add (k * 2)).block, (a.add (k * 2)).off + 1, none⟩ = some (.int .i64 (rSym zs k)) := c1'
      clear c1'
      have hg := lkeep HB.out hc
      have C := at1_any (rAt zs k) (rSym zs k) p g wr hg
      cases he : (rAt zs k == p) with
      | false =>
        have HE : Hid _ := at_miss hlt he
        rw [he] at C
        clear he
        go_wp2_with (go_at_call 34; refine C.mono ?_; rintro e w2 ⟨rfl, hb2⟩)
        have HB2 : Hid (Below w.heap.size w _) := lb_trans HB.out (by assumption)
        go_roundw
        case rel => exact ⟨k + 1, by go_num, by omega, HB2.out, by rw [Hid, ← HE.out]; exact HT.out⟩
        case measure => simp [intOf]; omega
      | true =>
        have HE : Hid _ := at_hit hlt he
        rw [he] at C
        clear he
        go_wp2_with (go_at_call 34; refine C.mono ?_; rintro e w2 ⟨rfl, hb2⟩)
        have HB2 : Hid (Below w.heap.size w _) := lb_trans HB.out (by assumption)
        go_ret
        exact ⟨retI (by rw [← HT.out, HE.out]), HB2.out⟩
    · have HE : Hid _ := at_end (p := p) (by omega : zs.length ≤ k)
      go_wp2
      go_ret
      exact ⟨retI (by rw [← HT.out, HE.out]), HB.out⟩
theorem objof_any (nm : ByteArray) (dA : Int) (A1 A2 A4 A : Option Addr) (n1 c1 n2 c2 n4 c4 cp : Nat) (zs : List Sym) (s : ByteArray) (w : World) (hA : SymsAt w A zs) (hz : zs.length ≤ 1048576) : Calls Try.prog 11 #[.agg #[.string nm, .slice A1 n1 c1, .int .i64 dA, .slice A2 n2 c2, .slice A zs.length cp, .slice A4 n4 c4], .string s] w fun e w' => e = .returned (.int .i64 (ofS zs s)) ∧ Below w.heap.size w w' := by
  have hmf := mkFn
  go_enter Try.func11, Try.ntmps11
  go_wp2_with fail
  refine (idxsym_any A cp zs s _ _ (hA.keep ?bel) ?cel hz).mono ?_
  case bel => exact lb_alloc (lb_alloc (Below.refl _ _) _) _
  case cel => simp [go_sem]
  rintro e w1 ⟨rfl, hb⟩
  have HB : Hid (Below w.heap.size w w1) := lb_trans (lb_alloc (lb_alloc (Below.refl _ _) _) _) hb
  clear hb
  go_wp2
  go_ret
  exact ⟨rfl, HB.out⟩
theorem objat_any (nm : ByteArray) (dA : Int) (A1 A2 A4 A : Option Addr) (n1 c1 n2 c2 n4 c4 cp : Nat) (zs : List Rel) (s : Int) (w : World) (hA : RelsAt w A zs) (hz : zs.length ≤ 1048576) : Calls Try.prog 13 #[.agg #[.string nm, .slice A1 n1 c1, .int .i64 dA, .slice A2 n2 c2, .slice A4 n4 c4, .slice A zs.length cp], .int .i64 s] w fun e w' => e = .returned (.int .i64 (atR zs s)) ∧ Below w.heap.size w w' := by
  have hmf := mkFn
  go_enter Try.func13, Try.ntmps13
  go_wp2_with fail
  refine (idxrel_any A cp zs s _ _ (hA.keep ?bel) ?cel hz).mono ?_
  case bel => exact lb_alloc (lb_alloc (Below.refl _ _) _) _
  case cel => simp [go_sem]
  rintro e w1 ⟨rfl, hb⟩
  have HB : Hid (Below w.heap.size w w1) := lb_trans (lb_alloc (lb_alloc (Below.refl _ _) _) _) hb
  clear hb
  go_wp2
  go_ret
  exact ⟨rfl, HB.out⟩

end Go.Proofs.Ytbphfgalgiinnaa
