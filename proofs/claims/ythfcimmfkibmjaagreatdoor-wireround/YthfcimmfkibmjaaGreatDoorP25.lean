/-
  errors.As at an error that is a refusal: what it answers.
-/
import Derived.Test.YthfcimmfkibmjaaGreatDoorProg
import Derived.WalkKit
import Derived.WalkSpells
import Derived.WalkLawsBesides
import Derived.RowKit3
import Derived.Below
import Derived.Deep.QuietTactic
import Derived.BigQuiet
import Derived.WalkSmall
import Derived.Laws.Rows
import Derived.Test.YthfcimmfkibmjaaGreatDoorP24
import Derived.Test.YthfcimmfkibmjaaGreatDoorP02
namespace Go.Proofs.YthfcimmfkibmjaaGreatDoor
open Go.RowKit


open Go.Extern.Stop Go.Stop Go.Extern

theorem run_two {α β : Type} {P : Program} {W : World} {m : Sem Value} {p1 : Sem α} {p2 : Sem β} (k : α → β → Sem Value) (e : m = (p1 >>= fun p => p2 >>= fun q => k p q)) : m.run P W = (p1 >>= fun p => p2 >>= fun q => k p q).run P W := by rw [e]
theorem as_set_run (v x : Value) (a b : Addr) (val : Value) (P : Program) (W W' : World) (hp : (ReflectliteValue.parts v).run P W = .ok (some (97, a, 409)) W) (hq : (ReflectliteValue.parts x).run P W = .ok (some (97, b, 153)) W) (hl : (loadVar 97 b).run P W = .ok val W) (hd : (Rtype.directlyAssignable 97 97).run P W = .ok true W) (hs : (storeVar 97 a val).run P W = .ok () W') :
    (ReflectliteValue.set #[v, x]).run P W = .ok (.tuple #[]) W' := by
  refine (run_two (p1 := ReflectliteValue.parts v) (p2 := ReflectliteValue.parts x) _ rfl).trans ?_
  simp only [Sem.run_bind, hp, hq, Result.andThen]
  simp [ReflectliteValue.flagAddr, hl, hd, hs, Result.andThen]
theorem as_set97 (ta b : Nat) (x y : Int) (u v : Value) (W : World) (hb0 : W.cell? ⟨b, 0, none⟩ = some (.int .i64 x)) (hb1 : W.cell? ⟨b, 1, none⟩ = some (.int .i64 y)) (h0 : W.cell? ⟨ta, 0, none⟩ = some u) (h1 : W.cell? ⟨ta, 1, none⟩ = some v) (f0 : W.frozen? ⟨ta, 0, none⟩ = false) (f1 : W.frozen? ⟨ta, 1, none⟩ = false) :
    (ReflectliteValue.set #[.agg #[.pointer (some ⟨4, 97, none⟩), .pointer (some ⟨ta, 0, none⟩), .int .u64 409], .agg #[.pointer (some ⟨4, 97, none⟩), .pointer (some ⟨b, 0, none⟩), .int .u64 153]]).run Tryz.prog W = .ok (.tuple #[]) ((W.setCell ⟨ta, 0, none⟩ (.int .i64 x)).setCell ⟨ta, 1, none⟩ (.int .i64 y)) :=
  as_set_run _ _ _ _ _ _ _ _ (as_parts97a _ _) (as_parts97 _ _) (as_load97 b x y W hb0 hb1) (as_direct97 _) (as_store97 ta x y u v W h0 h1 f0 f1)
theorem alloc_keep {w : World} {a : Addr} {v : Value} (h : w.cell? a = some v) (o : Obj) : (w.alloc o).cell? a = some v := lkeep (lb_alloc (Below.refl _ _) o) h
theorem alloc_fro {w : World} {a : Addr} (hl : a.block < w.heap.size) (h : w.frozen? a = false) (o : Obj) : (w.alloc o).frozen? a = false := by
  rw [(lb_alloc (Below.refl w.heap.size w) o).frozen (p := a) hl]; exact h
set_option maxHeartbeats 4000000 in
theorem as_hit (tb : Nat) (x y : Int) (u v : Value) (w : World) (hg : w.cell? ⟨0, 0, none⟩ = some (.iface 218 (.agg #[.pointer (some ⟨4, 90, none⟩)]))) (h0 : w.cell? ⟨tb, 0, none⟩ = some u) (h1 : w.cell? ⟨tb, 1, none⟩ = some v) (f0 : w.frozen? ⟨tb, 0, none⟩ = false) (f1 : w.frozen? ⟨tb, 1, none⟩ = false) :
    Calls Tryz.prog 60 #[.iface 97 (.agg #[.int .i64 x, .int .i64 y]), .iface 99 (.pointer (some ⟨tb, 0, none⟩))] w fun ev w' => ev = .returned (.bool true) ∧ w' = (((((w.alloc (.cells #[.pointer (some ⟨tb, 0, none⟩)] 99)).alloc (.cells #[.pointer (some ⟨4, 99, none⟩), .pointer (some ⟨w.heap.size, 0, none⟩), .int .u64 150] 181)).alloc (.cells #[.pointer (some ⟨4, 99, none⟩), .pointer (some ⟨w.heap.size, 0, none⟩), .int .u64 150] 181)).alloc (.cells #[.int .i64 x, .int .i64 y] 97)).setCell ⟨tb, 0, none⟩ (.int .i64 x)).setCell ⟨tb, 1, none⟩ (.int .i64 y) := by
  have h6 := @run_callFunc_extern Tryz.prog 109 _ (fun args => ReflectliteValue.unpack (args.getD 0 (.tuple #[]))) Tryz.func109 (by kernel_rfl) (by kernel_rfl) (by kernel_rfl) (by kernel_rfl)
  have h7 := @run_callFunc_extern Tryz.prog 110 _ (ReflectliteValue.methodAny (ReflectliteValue.valueError "reflectlite.Value.Type" 0) (fun t _ _ _ => ReflectliteType.toType t)) Tryz.func110 (by kernel_rfl) (by kernel_rfl) (by kernel_rfl) (by kernel_rfl)
  have h8 := @run_callFunc_extern Tryz.prog 111 _ (ReflectliteValue.method (ReflectliteValue.valueError "reflectlite.Value.IsNil" 0) ReflectliteValue.isNil) Tryz.func111 (by kernel_rfl) (by kernel_rfl) (by kernel_rfl) (by kernel_rfl)
  have h27 := @run_callFunc_extern Tryz.prog 188 _ (ReflectliteType.abiMethod fun t => do pure (.int .u8 (← Rtype.kind t))) Tryz.func188 (by kernel_rfl) (by kernel_rfl) (by kernel_rfl) (by kernel_rfl)
  have h37 := @run_callFunc_extern Tryz.prog 199 _ (ReflectliteType.method ReflectliteType.elem) Tryz.func199 (by kernel_rfl) (by kernel_rfl) (by kernel_rfl) (by kernel_rfl)
  have h38 := @run_callFunc_extern Tryz.prog 200 _ (ReflectliteType.relation "Implements" ReflectliteType.implements_) Tryz.func200 (by kernel_rfl) (by kernel_rfl) (by kernel_rfl) (by kernel_rfl)
  have h10 := @run_callFunc_extern Tryz.prog 140 _ ReflectliteType.typeOf Tryz.func140 (by kernel_rfl) (by kernel_rfl) (by kernel_rfl) (by kernel_rfl)
  have h35 := @run_callFunc_extern Tryz.prog 197 _ (ReflectliteType.relation "AssignableTo" ReflectliteType.assignableTo) Tryz.func197 (by kernel_rfl) (by kernel_rfl) (by kernel_rfl) (by kernel_rfl)
  have h11 := @run_callFunc_extern Tryz.prog 141 _ (ReflectliteValue.method (ReflectliteValue.valueError "reflectlite.Value.Elem" 0) ReflectliteValue.elem) Tryz.func141 (by kernel_rfl) (by kernel_rfl) (by kernel_rfl) (by kernel_rfl)
  have h12 := @run_callFunc_extern Tryz.prog 142 _ ReflectliteValue.set Tryz.func142 (by kernel_rfl) (by kernel_rfl) (by kernel_rfl) (by kernel_rfl)
  have tO := as_typeOf97
  have mA := as_asg
  have a25 := as_asg97
  have v25 := as_val97
  have f6 := as_val99
  have f7 := as_type99
  have mK := as_kind
  have mE := as_elem
  have mI := as_impl
  have k27 := as_kind99
  have k25 := as_kind97
  have e27 := as_elem99
  have i25 := as_impl97
  have htl : tb < w.heap.size := World.block_lt_of_cell? w ⟨tb, 0, none⟩ h0
  have n8 := as_isNil99 ⟨w.heap.size, 0, none⟩ ⟨tb, 0, none⟩ ((w.alloc (.cells #[.pointer (some ⟨tb, 0, none⟩)] 99)).alloc (.cells #[.pointer (some ⟨4, 99, none⟩), .pointer (some ⟨w.heap.size, 0, none⟩), .int .u64 150] 181)) (alloc_keep (by simp) _)
  have hg2 : ((w.alloc (.cells #[.pointer (some ⟨tb, 0, none⟩)] 99)).alloc (.cells #[.pointer (some ⟨4, 99, none⟩), .pointer (some ⟨w.heap.size, 0, none⟩), .int .u64 150] 181)).cell? ⟨0, 0, none⟩ = some (.iface 218 (.agg #[.pointer (some ⟨4, 90, none⟩)])) := alloc_keep (alloc_keep hg _) _
  have el := as_elemV99 ⟨w.heap.size, 0, none⟩ ⟨tb, 0, none⟩ (((w.alloc (.cells #[.pointer (some ⟨tb, 0, none⟩)] 99)).alloc (.cells #[.pointer (some ⟨4, 99, none⟩), .pointer (some ⟨w.heap.size, 0, none⟩), .int .u64 150] 181)).alloc (.cells #[.pointer (some ⟨4, 99, none⟩), .pointer (some ⟨w.heap.size, 0, none⟩), .int .u64 150] 181)) (alloc_keep (alloc_keep (by simp) _) _)
  have st := as_set97 tb (w.heap.size + 1 + 1 + 1) x y u v ((((w.alloc (.cells #[.pointer (some ⟨tb, 0, none⟩)] 99)).alloc (.cells #[.pointer (some ⟨4, 99, none⟩), .pointer (some ⟨w.heap.size, 0, none⟩), .int .u64 150] 181)).alloc (.cells #[.pointer (some ⟨4, 99, none⟩), .pointer (some ⟨w.heap.size, 0, none⟩), .int .u64 150] 181)).alloc (.cells #[.int .i64 x, .int .i64 y] 97)) (by rw [World.cell?_alloc_at _ _ _ _ (by simp)]; rfl) (by rw [World.cell?_alloc_at _ _ _ _ (by simp)]; rfl) (alloc_keep (alloc_keep (alloc_keep (alloc_keep h0 _) _) _) _) (alloc_keep (alloc_keep (alloc_keep (alloc_keep h1 _) _) _) _)
    (alloc_fro (by simp; omega) (alloc_fro (by simp; omega) (alloc_fro (by simp; omega) (alloc_fro htl f0 _) _) _) _) (alloc_fro (by simp; omega) (alloc_fro (by simp; omega) (alloc_fro (by simp; omega) (alloc_fro htl f1 _) _) _) _)
  go_enter Tryz.func60, Tryz.ntmps60
  go_wp2
  refine wp_loop_rounds 1 ?_
  rw [rounds_succ]
  go_wp2
  go_ret
  exact ⟨rfl, rfl⟩

end Go.Proofs.YthfcimmfkibmjaaGreatDoor
