/-
  An object copied into memory of its own, with marks behind its lists, by the document's helper; its lists are at most 2^20 long.
-/
import Derived.Test.YtbphfgalgiinnaaProg
import Derived.WalkKit
import Derived.WalkSpells
import Derived.WalkLawsBesides
import Derived.RowKit3
import Derived.Below
import Derived.Deep.QuietTactic
import Derived.BigQuiet
import Derived.WalkSmall
import Derived.Test.YtbphfgalgiinnaaWideSym
import Derived.Test.YtbphfgalgiinnaaWideRel
namespace Go.Proofs.Ytbphfgalgiinnaa
open Go.RowKit

set_option maxRecDepth 100000 in
set_option maxHeartbeats 2000000 in
theorem wideobj_any (nm : ByteArray) (dA : Int) (A1 A2 A3 A4 : Option Addr) (c1 c2 c3 c4 : Nat) (code data : List Int) (ss : List Sym) (rs : List Rel) (w : World) (hC : IntsAt w A1 .u32 code) (hD : IntsAt w A2 .i64 data) (hS : SymsAt w A3 ss) (hL : RelsAt w A4 rs) (hc : code.length ≤ 1048576) (hd : data.length ≤ 1048576) (hs : ss.length ≤ 1048576) (hl : rs.length ≤ 1048576) :
    Calls Try.prog 8 #[.agg #[.string nm, .slice A1 code.length c1, .int .i64 dA, .slice A2 data.length c2, .slice A3 ss.length c3, .slice A4 rs.length c4]] w fun e w' => e = .returned (.agg #[.string nm, .slice (some ⟨w.heap.size + 2, 0, none⟩) code.length (code.length + 64), .int .i64 dA, .slice (some ⟨w.heap.size + 3, 0, none⟩) data.length (data.length + 64), .slice (some ⟨w.heap.size + 4, 0, none⟩) ss.length (ss.length + 64), .slice (some ⟨w.heap.size + 5, 0, none⟩) rs.length (rs.length + 64)]) ∧ w' = (((((w.alloc (.cells #[.string nm, .slice (some ⟨w.heap.size + 2, 0, none⟩) code.length (code.length + 64), .int .i64 dA, .slice (some ⟨w.heap.size + 3, 0, none⟩) data.length (data.length + 64), .slice (some ⟨w.heap.size + 4, 0, none⟩) ss.length (ss.length + 64), .slice (some ⟨w.heap.size + 5, 0, none⟩) rs.length (rs.length + 64)] 27)).alloc (.cells #[.string nm, .slice (some ⟨w.heap.size + 2, 0, none⟩) code.length (code.length + 64), .int .i64 dA, .slice (some ⟨w.heap.size + 3, 0, none⟩) data.length (data.length + 64), .slice (some ⟨w.heap.size + 4, 0, none⟩) ss.length (ss.length + 64), .slice (some ⟨w.heap.size + 5, 0, none⟩) rs.length (rs.length + 64)] 27)).alloc (.cells (wcur (wInt .u32 code) (fun _ => .int .u32 0) (code.length + 64) (code.length + 64)) 45)).alloc (.cells (wcur (wInt .i64 data) (fun _ => .int .i64 0) (data.length + 64) (data.length + 64)) 2)).alloc (.cells (wcur (wSym ss) zSym ((ss.length + 64) * 3) ((ss.length + 64) * 3)) 42)).alloc (.cells (wcur (wRel rs) (fun _ => .int .i64 0) ((rs.length + 64) * 2) ((rs.length + 64) * 2)) 44) := by
  go_enter Try.func8, Try.ntmps8
  go_wp2_with fail
  refine (widewords_any A1 c1 code _ (hC.keep (lb_alloc (lb_alloc (Below.refl _ _) _) _)) hc).mono ?_
  rintro e w1 ⟨rfl, rfl⟩
  go_wp2_with fail
  refine (widelongs_any A2 c2 data _ (hD.keep (lb_alloc (lb_alloc (lb_alloc (Below.refl _ _) _) _) _)) hd).mono ?_
  rintro e w1 ⟨rfl, rfl⟩
  go_wp2_with fail
  refine (widesym_any A3 c3 ss _ (hS.keep (lb_alloc (lb_alloc (lb_alloc (lb_alloc (Below.refl _ _) _) _) _) _)) hs).mono ?_
  rintro e w1 ⟨rfl, rfl⟩
  go_wp2_with fail
  refine (widerel_any A4 c4 rs _ (hL.keep (lb_alloc (lb_alloc (lb_alloc (lb_alloc (lb_alloc (Below.refl _ _) _) _) _) _) _)) hl).mono ?_
  rintro e w1 ⟨rfl, rfl⟩
  go_wp2
  exact bodyPost_ret (v := .agg #[.string nm, .slice (some ⟨w.heap.size + 2, 0, none⟩) code.length (code.length + 64), .int .i64 dA, .slice (some ⟨w.heap.size + 3, 0, none⟩) data.length (data.length + 64), .slice (some ⟨w.heap.size + 4, 0, none⟩) ss.length (ss.length + 64), .slice (some ⟨w.heap.size + 5, 0, none⟩) rs.length (rs.length + 64)]) (by simp [results, Try.results8, go_sem]) rfl ⟨rfl, rfl⟩


end Go.Proofs.Ytbphfgalgiinnaa
