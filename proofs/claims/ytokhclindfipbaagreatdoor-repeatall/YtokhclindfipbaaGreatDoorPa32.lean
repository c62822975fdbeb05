/-
  The document's sorting of sequences, by merging.
-/
import Derived.Test.YtokhclindfipbaaGreatDoorProg
import Derived.WalkKit
import Derived.WalkSpells
import Derived.WalkLawsBesides
import Derived.RowKit3
import Derived.Below
import Derived.Deep.QuietTactic
import Derived.BigQuiet
import Derived.WalkSmall
import Derived.Laws.Rows
import Derived.Test.YtokhclindfipbaaGreatDoorPa31
import Derived.OwnWalk
import Derived.Deep.Cut
import Derived.Deep.RegionHeld3
namespace Go.Proofs.YtokhclindfipbaaGreatDoor
open Go.RowKit

theorem infoRQ : ∃ i, Tryz.prog.info? 69 = some i ∧ i.zero = some (.agg #[.int .i64 0, .slice none 0 0]) ∧ i.size = 2 ∧ i.bytes = 32 :=
  ⟨(Tryz.prog.info? 69).get (by kernel_rfl), by kernel_rfl, by kernel_rfl, by kernel_rfl, by kernel_rfl⟩
theorem row_rps {w : World} {base c n : Nat} {e : TypeId} {A : Option Addr} {S : Nat × Nat → Value} {R : List (Nat × Nat)} (h : w.ownsRow base e 2 (.slice A n c) R.length (rNews S R)) : RpAt w A S R := fun i hi => by
  rcases h.2 with ⟨_, h0⟩ | ⟨j, cap, cur, hv, hb, hg, hc, _⟩
  · omega
  · cases hv
    obtain ⟨a, b⟩ := rNews_get S hi
    exact ⟨_, rfl, h.cells rfl _ _ a, by rw [Deep.add_add]; exact h.cells rfl _ _ b⟩
theorem rps_cell {w : World} {a : Addr} {S : Nat × Nat → Value} {R : List (Nat × Nat)} (hA : RpAt w (some a) S R) (j : Nat) (u : Value) (h : (rNews S R)[j]? = some u) : w.cell? (a.add j) = some u := by
  have hj : j < R.length * 2 := by
    have := (List.getElem?_eq_some_iff.1 h).1; rwa [rNews_len] at this
  obtain ⟨i, hi⟩ : ∃ i, i = j / 2 := ⟨_, rfl⟩
  obtain ⟨b, e, c0, c1⟩ := hA i (by omega)
  obtain rfl := Option.some.inj e
  obtain ⟨g0, g1⟩ := rNews_get S (R := R) (j := i) (by omega)
  have hm : j = i * 2 ∨ j = i * 2 + 1 := by omega
  clear hi
  rcases hm with rfl | rfl
  · rw [c0, ← h, g0]
  · rw [g1] at h
    rw [← h, ← Deep.add_add]
    exact c1
theorem rth_take {R : List (Nat × Nat)} {h j : Nat} (hj : j < h) : rth (R.take h) j = rth R j := by
  unfold rth
  rw [List.getD_eq_getElem?_getD, List.getD_eq_getElem?_getD, List.getElem?_take_of_lt hj]
theorem rth_drop (R : List (Nat × Nat)) (h j : Nat) : rth (R.drop h) j = rth R (h + j) := by
  unfold rth
  rw [List.getD_eq_getElem?_getD, List.getD_eq_getElem?_getD, List.getElem?_drop]
theorem RpAt.take {w : World} {A : Option Addr} {S : Nat × Nat → Value} {R : List (Nat × Nat)} (hA : RpAt w A S R) (h : Nat) : RpAt w A S (R.take h) := fun j hj => by
  rw [List.length_take] at hj
  obtain ⟨a, ea, q1, q2⟩ := hA j (by omega)
  rw [rth_take (by omega)]
  exact ⟨a, ea, q1, q2⟩
theorem RpAt.drop {w : World} {X : Addr} {S : Nat × Nat → Value} {R : List (Nat × Nat)} (hA : RpAt w (some X) S R) (h : Nat) : RpAt w (some (X.add (h * 2))) S (R.drop h) := fun j hj => by
  rw [List.length_drop] at hj
  obtain ⟨a, ea, q1, q2⟩ := hA (h + j) (by omega)
  obtain rfl := Option.some.inj ea
  rw [rth_drop]
  refine ⟨_, rfl, ?_, ?_⟩
  · rw [Deep.add_add, show h * 2 + j * 2 = (h + j) * 2 by omega]; exact q1
  · rw [show (X.add (h * 2)).add (j * 2) = X.add ((h + j) * 2) by rw [Deep.add_add, show h * 2 + j * 2 = (h + j) * 2 by omega]]; exact q2
def tlR (X : Addr) (c : Nat) : Addr := if c = 1 then X else X.add 2
theorem tailR_run (X : Addr) (n c : Nat) (h0 : 0 < n) (_h : n ≤ c) (w : World) : (Instr.slice 29 (.slice (some X) n c) (some (.int .i64 1)) none none).run Tryz.prog w = .ok (.slice (some (tlR X c)) (n - 1) (c - 1)) w := by
  rw [run_slice_l (P := Tryz.prog) w 29 (some X) n c (by kernel_rfl) .i64 1 (by omega) (by omega)]
  rw [show (sizeOf (Tryz.prog.elem 29)).run Tryz.prog w = .ok 2 w by kernel_rfl]
  show Result.ok (sliced (some X) 1 n c 2) w = _
  unfold sliced tlR
  by_cases e : c = 1
  · rw [if_pos e, if_pos e]
  · rw [if_neg e, if_neg e]; rfl
theorem headR_run (X : Addr) (n c h : Nat) (h1 : 0 < h) (h2 : h ≤ n) (h3 : n ≤ c) (w : World) : (Instr.slice 29 (.slice (some X) n c) none (some (.int .i64 (h : Int))) none).run Tryz.prog w = .ok (.slice (some X) h c) w := by
  rw [run_slice_h (P := Tryz.prog) w 29 (some X) n c (by kernel_rfl) .i64 (h : Int) (by omega) (by omega)]
  rw [show (sizeOf (Tryz.prog.elem 29)).run Tryz.prog w = .ok 2 w by kernel_rfl]
  show Result.ok (sliced (some X) 0 (h : Int).toNat c 2) w = _
  unfold sliced
  rw [if_neg (by omega)]
  simp [Addr.add]
theorem restR_run (X : Addr) (n c h : Nat) (h2 : h < n) (h3 : n ≤ c) (w : World) : (Instr.slice 29 (.slice (some X) n c) (some (.int .i64 (h : Int))) none none).run Tryz.prog w = .ok (.slice (some (X.add (h * 2))) (n - h) (c - h)) w := by
  rw [run_slice_l (P := Tryz.prog) w 29 (some X) n c (by kernel_rfl) .i64 (h : Int) (by omega) (by omega)]
  rw [show (sizeOf (Tryz.prog.elem 29)).run Tryz.prog w = .ok 2 w by kernel_rfl]
  show Result.ok (sliced (some X) (h : Int).toNat n c 2) w = _
  unfold sliced
  rw [show ((h : Int)).toNat = h by omega, if_neg (show ¬ c = h by omega)]
  simp
theorem RpAt.tail {w : World} {X : Addr} {S : Nat × Nat → Value} {R : List (Nat × Nat)} {c : Nat} (hA : RpAt w (some X) S R) (hc : R.length ≤ c) : RpAt w (some (tlR X c)) S (R.drop 1) := by
  by_cases e : c = 1
  · intro j hj
    rw [List.length_drop] at hj
    omega
  · unfold tlR
    rw [if_neg e]
    exact hA.drop 1
theorem RpAt.head {w : World} {X : Addr} {S : Nat × Nat → Value} {R : List (Nat × Nat)} (hA : RpAt w (some X) S R) (h : 0 < R.length) : w.cell? X = some (.int .i64 ((rth R 0).1 : Int)) ∧ w.cell? ⟨X.block, X.off + 1, none⟩ = some (S (rth R 0)) := by
  obtain ⟨a, ea, q1, q2⟩ := hA 0 h
  obtain rfl := Option.some.inj ea
  exact ⟨q1, q2⟩
theorem rep_oneI {S : Nat × Nat → Value} {r : Nat × Nat} {X : Option Addr} {n c : Nat} {z : Int} (h : S r = .slice X n c) : ∀ u ∈ [Value.int .i64 z, S r], u.oneCell' = true := fun u hu => by
  simp only [List.mem_cons, List.not_mem_nil, or_false] at hu
  rcases hu with rfl | rfl
  · rfl
  · rw [h]; rfl
theorem own_formR {w : World} {b n : Nat} {T : TypeId} {v : Value} {xs : List Value} (h : w.ownsRow b T 2 v n xs) : ∃ A c, v = .slice A n c ∧ n ≤ c := by
  rcases h.2 with ⟨e, e2⟩ | ⟨g, cap, cur, e, _, _, hc, _⟩
  · exact ⟨none, 0, by rw [e, e2], by omega⟩
  · exact ⟨_, _, e, hc⟩
theorem rNews_one {S : Nat × Nat → Value} : ∀ {R : List (Nat × Nat)}, (∀ r ∈ R, ∃ (X : Option Addr) (n c : Nat), S r = .slice X n c) → ∀ u ∈ rNews S R, u.oneCell' = true := fun {R} h u hu => by
  unfold rNews at hu
  obtain ⟨r, hr, hu⟩ := List.mem_flatMap.1 hu
  obtain ⟨X, n, c, e⟩ := h r hr
  exact rep_oneI e u hu
theorem tdivR_two (m : Nat) : Int.tdiv (m : Int) 2 = ((m / 2 : Nat) : Int) := by
  rw [Int.tdiv_eq_ediv_of_nonneg (by omega)]
  omega
/-- What is sorted. -/
def ToldP (nm : List Int) (en : Nat → Nat) (S : Nat × Nat → Value) (w : World) (R : List (Nat × Nat)) : Prop := ∀ r ∈ R, RepQ nm en r.1 r.2 ∧ AtP nm en S w r
theorem ToldP.keep {nm : List Int} {en : Nat → Nat} {S : Nat × Nat → Value} {w w' : World} {R : List (Nat × Nat)} (h : ToldP nm en S w R) (hb : Below w.heap.size w w') : ToldP nm en S w' R := fun r hr => ⟨(h r hr).1, (h r hr).2.keep hb⟩
/-- The first of a sequence's places, read. -/
theorem AtP.first {nm : List Int} {en : Nat → Nat} (he : EnP nm en) {S : Nat × Nat → Value} {w : World} {r : Nat × Nat} (hq : RepQ nm en r.1 r.2) (h : AtP nm en S w r) : ∃ (X : Addr) (n c : Nat), S r = .slice (some X) n c ∧ 0 < n ∧ w.cell? X = some (.int .i64 (r.2 : Int)) := by
  obtain ⟨X, c, e, hI, _⟩ := h
  have h0 : 0 < (plcS nm en r.2 r.1).length := List.length_pos_of_mem (plcS_own he hq.1 hq.2.2.1)
  refine ⟨X, _, c, e, h0, ?_⟩
  obtain ⟨a, ea, q⟩ := hI 0 (by rw [natL_len]; exact h0)
  obtain rfl := Option.some.inj ea
  rw [natL_nth h0, (plcS_first he hq.1 hq.2.2.1).2 hq.2.2.2.2] at q
  exact q
def SrtQ (nm : List Int) (S : Nat × Nat → Value) (R : List (Nat × Nat)) (w : World) (e : Ending) (w' : World) : Prop := ∃ (R' : List (Nat × Nat)) (A : Option Addr) (c : Nat), e = .returned (.slice A R'.length c) ∧ RpAt w' A S R' ∧ R'.length ≤ c ∧ SrQ nm R R' ∧ Below w.heap.size w w'
theorem rps_some {w : World} {A : Option Addr} {S : Nat × Nat → Value} {R : List (Nat × Nat)} (h : RpAt w A S R) (h0 : 0 < R.length) : ∃ X, A = some X := by
  obtain ⟨a, e, _⟩ := h 0 h0
  exact ⟨a, e⟩
set_option maxRecDepth 100000 in
set_option maxHeartbeats 16000000 in
theorem refsort18_any (N : Option Addr) (cn : Nat) (nm : List Int) (en : Nat → Nat) (S : Nat × Nat → Value) (he : EnP nm en) (hl : nm.length ≤ 1048576) (z : Nat) : ∀ (R : List (Nat × Nat)) (A : Option Addr) (c : Nat) (w : World), R.length = z → R.length ≤ 1048576 → R.length ≤ c → IntsAt w N .i64 nm → RpAt w A S R → ToldP nm en S w R →
    Calls Tryz.prog 59 #[.slice N nm.length cn, .slice A R.length c] w (SrtQ nm S R w) := by
  induction z using Nat.strongRecOn with
  | _ z ih =>
  intro R A c w hz hR hc hN hA hT
  subst hz
  by_cases h2 : R.length < 2
  · have h2' : (R.length : Int) < 2 := by omega
    have HE : Hid (SrtQ nm S R w (.returned (.slice A R.length c)) w) := ⟨R, A, c, rfl, hA, hc, SrQ.few h2, Below.refl _ _⟩
    clear ih hN hA hT
    go_enter Tryz.func59, Tryz.ntmps59
    go_wp2
    go_ret
    exact HE.out
  have h2' : ¬ (R.length : Int) < 2 := by omega
  obtain ⟨X, rfl⟩ := rps_some hA (by omega)
  obtain ⟨h, hh⟩ : ∃ h, h = R.length / 2 := ⟨_, rfl⟩
  have hq : Int.tdiv (R.length : Int) 2 = ((h : Nat) : Int) := by rw [hh, ← tdivR_two]
  have hh1 : 0 < h := by omega
  have hh2 : h < R.length := by omega
  have r1 := headR_run X R.length c h hh1 (by omega) hc
  have r2 := restR_run X R.length c h hh2 hc
  have tl : (R.take h).length = h := by rw [List.length_take]; omega
  have dl : (R.drop h).length = R.length - h := List.length_drop
  have I1 := ih h (by omega) (R.take h) (some X) c w tl (by omega) (by omega) hN (hA.take h) (fun r hr => hT r (List.mem_of_mem_take hr))
  have I2 := fun w1 (hb : Below w.heap.size w w1) => ih (R.length - h) (by omega) (R.drop h) (some (X.add (h * 2))) (c - h) w1 dl (by omega) (by omega) (hN.keep hb) ((hA.keep hb).drop h) (fun r hr => (hT.keep hb) r (List.mem_of_mem_drop hr))
  rw [tl] at I1
  rw [dl] at I2
  have HN : Hid (IntsAt w N .i64 nm) := hN
  have HT : Hid (ToldP nm en S w R) := hT
  have HSp : Hid (R.take h ++ R.drop h = R) := List.take_append_drop h R
  obtain ⟨iR, hi, hz0, hz1, hz2⟩ := infoRQ
  clear ih hN hA hT tl dl
  subst hh
  go_enter Tryz.func59, Tryz.ntmps59
  go_wp2_with fail
  refine I1.mono ?_
  rintro e w1 ⟨Ra, Aa, ca, rfl, hpa, hca, hsa, hb1⟩
  have HB1 : Hid (Below w.heap.size w w1) := hb1
  clear I1
  go_wp2_with fail
  refine (I2 _ HB1.out).mono ?_
  rintro e w2 ⟨Rb, Ab, cb, rfl, hpb, hcb, hsb, hb2⟩
  have la : Ra.length = R.length / 2 := by rw [hsa.len, List.length_take]; omega
  have lb : Rb.length = R.length - R.length / 2 := by rw [hsb.len, List.length_drop]
  obtain ⟨Xa, rfl⟩ := rps_some hpa (by omega)
  obtain ⟨Xb, rfl⟩ := rps_some hpb (by omega)
  have HB2 : Hid (Below w.heap.size w w2) := lb_trans HB1.out hb2
  have HPa : Hid (RpAt w2 (some Xa) S (Ra.drop 0)) := hpa.keep hb2
  have HPb : Hid (RpAt w2 (some Xb) S (Rb.drop 0)) := hpb
  have HSa : Hid (SrQ nm (R.take (R.length / 2)) Ra) := hsa
  have HSb : Hid (SrQ nm (R.drop (R.length / 2)) Rb) := hsb
  have HTa : Hid (∀ r ∈ Ra, RepQ nm en r.1 r.2 ∧ AtP nm en S w2 r) := fun r hr => (HT.out.keep HB2.out) r (List.mem_of_mem_take (hsa.perm.mem_iff.1 hr))
  have HTb : Hid (∀ r ∈ Rb, RepQ nm en r.1 r.2 ∧ AtP nm en S w2 r) := fun r hr => (HT.out.keep HB2.out) r (List.mem_of_mem_drop (hsb.perm.mem_iff.1 hr))
  have hlA : Ra.length ≤ 1048576 := by omega
  have hlB : Rb.length ≤ 1048576 := by omega
  have HLs : Hid (Ra.length + Rb.length = R.length) := by unfold Hid; omega
  clear I2 hpa hpb hsa hsb hb1 hb2 HB1 hq r1 r2 la lb HT
  go_wp2
  go_loopw [5, 6, 7] (fun va vb vo wr => ∃ (p q : Nat) (O : List (Nat × Nat)) (Xa Xb : Addr) (Xo : Option Addr) (ka kb ko : Nat), va = .slice (some Xa) (Ra.length - p) ka ∧ vb = .slice (some Xb) (Rb.length - q) kb ∧ vo = .slice Xo O.length ko ∧ p ≤ Ra.length ∧ q ≤ Rb.length ∧ Hid (O.length = p + q) ∧ Ra.length - p ≤ ka ∧ Rb.length - q ≤ kb ∧ Hid (RpAt w2 (some Xa) S (Ra.drop p)) ∧ Hid (RpAt w2 (some Xb) S (Rb.drop q)) ∧ Hid (MrQ nm Ra Rb O p q) ∧ Hid (wr.ownsRow w2.heap.size 69 2 (.slice Xo O.length ko) O.length (rNews S O)) ∧ Hid (Below w2.heap.size w2 wr)) (fun va vb _ _ => lenV va + lenV vb)
  case atStart => exact ⟨0, 0, [], Xa, Xb, none, ca, cb, 0, rfl, rfl, rfl, Nat.zero_le _, Nat.zero_le _, rfl, hca, hcb, HPa, HPb, MrQ.start nm Ra Rb, World.ownsRow_nil _ _ _ _, Below.refl _ _⟩
  case round =>
    clear HPa HPb hca hcb
    obtain ⟨p, q, O, Xa, Xb, Xo, ka, kb, ko, rfl, rfl, rfl, hp, hq, hO, hka, hkb, HPa, HPb, HM, HO, HB⟩ := hrel
    have hOle : O.length ≤ 2097152 := by have := hO.out; omega
    by_cases a1 : p < Ra.length
    · have a1' : (0 : Int) < ((Ra.length - p : Nat) : Int) := by omega
      by_cases a2 : q < Rb.length
      · have a2' : (0 : Int) < ((Rb.length - q : Nat) : Int) := by omega
        have ra0 : rth (Ra.drop p) 0 = rth Ra p := by rw [rth_drop]; rfl
        have rb0 : rth (Rb.drop q) 0 = rth Rb q := by rw [rth_drop]; rfl
        have HQa : Hid (∀ Z, Below w2.heap.size w2 Z → Z.cell? Xa = some (.int .i64 ((rth Ra p).1 : Int)) ∧ Z.cell? ⟨Xa.block, Xa.off + 1, none⟩ = some (S (rth Ra p))) := fun Z hZ => by
          have := (HPa.out.keep hZ).head (by rw [List.length_drop]; omega)
          rw [ra0] at this
          exact this
        have HQb : Hid (∀ Z, Below w2.heap.size w2 Z → Z.cell? Xb = some (.int .i64 ((rth Rb q).1 : Int)) ∧ Z.cell? ⟨Xb.block, Xb.off + 1, none⟩ = some (S (rth Rb q))) := fun Z hZ => by
          have := (HPb.out.keep hZ).head (by rw [List.length_drop]; omega)
          rw [rb0] at this
          exact this
        have HTla : Hid (RpAt w2 (some (tlR Xa ka)) S (Ra.drop (p + 1))) := by
          have := HPa.out.tail (c := ka) (by rw [List.length_drop]; exact hka)
          rw [List.drop_drop] at this
          exact this
        have HTlb : Hid (RpAt w2 (some (tlR Xb kb)) S (Rb.drop (q + 1))) := by
          have := HPb.out.tail (c := kb) (by rw [List.length_drop]; exact hkb)
          rw [List.drop_drop] at this
          exact this
        obtain ⟨qa, ta⟩ := HTa.out _ (rth_mem a1)
        obtain ⟨qb, tb⟩ := HTb.out _ (rth_mem a2)
        obtain ⟨xa, na, ya, ea, na0, fa⟩ := ta.first he qa
        obtain ⟨xb, nb, yb, eb, nb0, fb⟩ := tb.first he qb
        have ma := he.le _ qa.1
        have mb := he.le _ qb.1
        have ma2 := qa.2.2.1
        have mb2 := qb.2.2.1
        have CL := fun Z (hZ : Below w2.heap.size w2 Z) => refless18_any N cn nm xb xa nb yb na ya (rth Rb q).2 (rth Rb q).1 (rth Ra p).2 (rth Ra p).1 Z (HN.out.keep (lb_trans HB2.out hZ)) hl (lkeep hZ fb) (lkeep hZ fa) nb0 na0 (by omega) (by omega)
        have HL : Hid (lsQ nm (rth Rb q) (rth Ra p) = false → MrQ nm Ra Rb (O ++ [rth Ra p]) (p + 1) q) := fun h => HM.out.left a1 a2 h
        have HRt : Hid (lsQ nm (rth Rb q) (rth Ra p) = true → MrQ nm Ra Rb (O ++ [rth Rb q]) p (q + 1)) := fun h => HM.out.right a1 a2 h
        have EA : Hid (S (rth Ra p) = .slice (some xa) na ya) := ea
        have EB : Hid (S (rth Rb q) = .slice (some xb) nb yb) := eb
        rw [ea] at HQa
        rw [eb] at HQb
        obtain ⟨q1, q1'⟩ := HQa.out _ HB.out
        obtain ⟨q2, q2'⟩ := HQb.out _ HB.out
        have tra := tailR_run Xa (Ra.length - p) ka (by omega) hka
        have trb := tailR_run Xb (Rb.length - q) kb (by omega) hkb
        have hXX := Below.refl wr.heap.size wr
        clear ra0 rb0 qa qb ta tb fa fb ea eb ma mb ma2 mb2
        cases hs : lsQ nm (rth Rb q) (rth Ra p) with
        | true =>
          have HM2 : Hid (MrQ nm Ra Rb (O ++ [rth Rb q]) p (q + 1)) := HRt.out hs
          have hs' : lsQ nm ((rth Rb q).1, (rth Rb q).2) ((rth Ra p).1, (rth Ra p).2) = true := hs
          rw [hs'] at CL
          clear hs hs' HL HRt HM HTla tra HPb EA
          generalize rth Ra p = ra at *
          generalize rth Rb q = rb at *
          go_upto_region 7 with fail
          go_region_held3 (fun W => W.cell? Xa = some (.int .i64 (ra.1 : Int)) ∧ W.cell? ⟨Xa.block, Xa.off + 1, none⟩ = some (.slice (some xa) na ya) ∧ W.cell? Xb = some (.int .i64 (rb.1 : Int)) ∧ W.cell? ⟨Xb.block, Xb.off + 1, none⟩ = some (.slice (some xb) nb yb)) (first | exact ⟨q1, q1', q2, q2'⟩ | exact ⟨lkeep hY q1, lkeep hY q1', lkeep hY q2, lkeep hY q2'⟩) (first | (go_at_call 74; refine (CL _ (by first | exact HB.out.drew | exact HB.out)).mono ?_; rintro e w5 ⟨rfl, hb5⟩; have hY : Below wr.heap.size wr w5 := (by first | exact hb5 | exact lb_trans hXX.drew hb5); clear hb5))
          rename_i hS
          clear hS
          have HB5 : Hid (Below w2.heap.size w2 w5) := lb_trans HB.out hY
          have HO5 : Hid (w5.ownsRow w2.heap.size 69 2 (.slice Xo O.length ko) O.length (rNews S O)) := row_keep HO.out hY
          clear q1 q1' q2 q2'
          obtain ⟨q2, q2'⟩ := HQb.out _ HB5.out
          have HBa : Hid (Below w2.heap.size w2 (w5.alloc (.cells #[.int .i64 (rb.1 : Int), .slice (some xb) nb yb] 69))) := lb_alloc HB5.out _
          have HRa : Hid ((w5.alloc (.cells #[.int .i64 (rb.1 : Int), .slice (some xb) nb yb] 69)).ownsRow w2.heap.size 69 2 (.slice Xo O.length ko) O.length (rNews S O)) := row_keep HO5.out (lb_alloc (Below.refl _ _) _)
          go_wp2_with (at_builtin; go_loud (refine wpList_append_own _ rfl (.tmp 42) (.tmp 46) 29 rfl w2.heap.size 69 iR (.agg #[.int .i64 0, .slice none 0 0]) 2 32 Tryz.underlying29 hi hz0 hz1 hz2 rfl (by decide) (.slice Xo O.length ko) O.length (rNews S O) rfl HRa.out ⟨w5.heap.size, 0, none⟩ 1 1 [.int .i64 (rb.1 : Int), .slice (some xb) nb yb] rfl rfl (fun j u hu => World.news_of_block (new_at (by simp)) j u hu) (rep_oneI (S := fun _ => .slice (some xb) nb yb) (r := rb) rfl) (by unfold maxLen; omega) (by omega) HBa.out.size ?_; intro v3 w6 hown hgrow _; have HB6 : Hid (Below w2.heap.size w2 w6) := HBa.out.grown hgrow HBa.out.size (fun b hb => (HRa.out.lt b hb).1); have HR6 : Hid (w6.ownsRow w2.heap.size 69 2 v3 (O.length + 1) (rNews S O ++ [.int .i64 (rb.1 : Int), .slice (some xb) nb yb])) := hown; clear hown hgrow))
          obtain ⟨X6, k6, rfl, -⟩ := own_formR HR6.out
          have HR7 : Hid (w6.ownsRow w2.heap.size 69 2 (.slice X6 (O ++ [rb]).length k6) (O ++ [rb]).length (rNews S (O ++ [rb]))) := by
            unfold Hid
            rw [rNews_app, List.length_append, show rNews S [rb] = [.int .i64 (rb.1 : Int), .slice (some xb) nb yb] by rw [← EB.out]; rfl]
            exact HR6.out
          go_roundw
          case rel => exact ⟨p, q + 1, O ++ [rb], Xa, tlR Xb kb, X6, ka, kb - 1, k6, rfl, by rw [show Rb.length - (q + 1) = Rb.length - q - 1 by omega], by rw [List.length_append]; rfl, hp, by omega, by unfold Hid; rw [List.length_append, hO.out]; simp; omega, hka, by omega, HPa, HTlb, HM2, HR7, HB6⟩
          case measure => simp [lenV]; omega
        | false =>
          have HM2 : Hid (MrQ nm Ra Rb (O ++ [rth Ra p]) (p + 1) q) := HL.out hs
          have hs' : lsQ nm ((rth Rb q).1, (rth Rb q).2) ((rth Ra p).1, (rth Ra p).2) = false := hs
          rw [hs'] at CL
          clear hs hs' HL HRt HM HTlb trb HPa EB
          generalize rth Ra p = ra at *
          generalize rth Rb q = rb at *
          go_upto_region 7 with fail
          go_region_held3 (fun W => W.cell? Xa = some (.int .i64 (ra.1 : Int)) ∧ W.cell? ⟨Xa.block, Xa.off + 1, none⟩ = some (.slice (some xa) na ya) ∧ W.cell? Xb = some (.int .i64 (rb.1 : Int)) ∧ W.cell? ⟨Xb.block, Xb.off + 1, none⟩ = some (.slice (some xb) nb yb)) (first | exact ⟨q1, q1', q2, q2'⟩ | exact ⟨lkeep hY q1, lkeep hY q1', lkeep hY q2, lkeep hY q2'⟩) (first | (go_at_call 74; refine (CL _ (by first | exact HB.out.drew | exact HB.out)).mono ?_; rintro e w5 ⟨rfl, hb5⟩; have hY : Below wr.heap.size wr w5 := (by first | exact hb5 | exact lb_trans hXX.drew hb5); clear hb5))
          rename_i hS
          clear hS
          have HB5 : Hid (Below w2.heap.size w2 w5) := lb_trans HB.out hY
          have HO5 : Hid (w5.ownsRow w2.heap.size 69 2 (.slice Xo O.length ko) O.length (rNews S O)) := row_keep HO.out hY
          clear q1 q1' q2 q2'
          obtain ⟨q1, q1'⟩ := HQa.out _ HB5.out
          have HBa : Hid (Below w2.heap.size w2 (w5.alloc (.cells #[.int .i64 (ra.1 : Int), .slice (some xa) na ya] 69))) := lb_alloc HB5.out _
          have HRa : Hid ((w5.alloc (.cells #[.int .i64 (ra.1 : Int), .slice (some xa) na ya] 69)).ownsRow w2.heap.size 69 2 (.slice Xo O.length ko) O.length (rNews S O)) := row_keep HO5.out (lb_alloc (Below.refl _ _) _)
          go_wp2_with (at_builtin; go_loud (refine wpList_append_own _ rfl (.tmp 50) (.tmp 54) 29 rfl w2.heap.size 69 iR (.agg #[.int .i64 0, .slice none 0 0]) 2 32 Tryz.underlying29 hi hz0 hz1 hz2 rfl (by decide) (.slice Xo O.length ko) O.length (rNews S O) rfl HRa.out ⟨w5.heap.size, 0, none⟩ 1 1 [.int .i64 (ra.1 : Int), .slice (some xa) na ya] rfl rfl (fun j u hu => World.news_of_block (new_at (by simp)) j u hu) (rep_oneI (S := fun _ => .slice (some xa) na ya) (r := ra) rfl) (by unfold maxLen; omega) (by omega) HBa.out.size ?_; intro v3 w6 hown hgrow _; have HB6 : Hid (Below w2.heap.size w2 w6) := HBa.out.grown hgrow HBa.out.size (fun b hb => (HRa.out.lt b hb).1); have HR6 : Hid (w6.ownsRow w2.heap.size 69 2 v3 (O.length + 1) (rNews S O ++ [.int .i64 (ra.1 : Int), .slice (some xa) na ya])) := hown; clear hown hgrow))
          obtain ⟨X6, k6, rfl, -⟩ := own_formR HR6.out
          have HR7 : Hid (w6.ownsRow w2.heap.size 69 2 (.slice X6 (O ++ [ra]).length k6) (O ++ [ra]).length (rNews S (O ++ [ra]))) := by
            unfold Hid
            rw [rNews_app, List.length_append, show rNews S [ra] = [.int .i64 (ra.1 : Int), .slice (some xa) na ya] by rw [← EA.out]; rfl]
            exact HR6.out
          go_roundw
          case rel => exact ⟨p + 1, q, O ++ [ra], tlR Xa ka, Xb, X6, ka - 1, kb, k6, by rw [show Ra.length - (p + 1) = Ra.length - p - 1 by omega], rfl, by rw [List.length_append]; rfl, by omega, hq, by unfold Hid; rw [List.length_append, hO.out]; simp; omega, by omega, hkb, HTla, HPb, HM2, HR7, HB6⟩
          case measure => simp [lenV]; omega
      · have a2' : ¬ (0 : Int) < ((Rb.length - q : Nat) : Int) := by omega
        have hend : Ra.length ≤ p ∨ Rb.length ≤ q := .inr (by omega)
        have HDn := HM.out.done hend
        have HL : Hid ((List.merge Ra Rb (leQ nm)).length = O.length + (Ra.length - p) + (Rb.length - q)) := by
          unfold Hid
          rw [HDn]
          simp; omega
        have HV : Hid (rNews S (List.merge Ra Rb (leQ nm)) = rNews S O ++ rNews S (Ra.drop p) ++ rNews S (Rb.drop q)) := by
          unfold Hid
          rw [HDn, rNews_app, rNews_app]
        have HP : Hid (SrQ nm R (List.merge Ra Rb (leQ nm))) := by
          have h7 := HSa.out.merge HSb.out
          rw [HSp.out] at h7
          exact h7
        have HPaW : Hid (RpAt wr (some Xa) S (Ra.drop p)) := HPa.out.keep HB.out
        have HOa : Hid (∀ u ∈ rNews S (Ra.drop p), u.oneCell' = true) := rNews_one fun r hr => by
          obtain ⟨X7, c7, e7, _⟩ := (HTa.out r (List.mem_of_mem_drop hr)).2
          exact ⟨_, _, _, e7⟩
        have HOb : Hid (∀ u ∈ rNews S (Rb.drop q), u.oneCell' = true) := rNews_one fun r hr => by
          obtain ⟨X7, c7, e7, _⟩ := (HTb.out r (List.mem_of_mem_drop hr)).2
          exact ⟨_, _, _, e7⟩
        generalize List.merge Ra Rb (leQ nm) = M at *
        clear HDn HM hend
        go_upto_region 13 with (at_builtin; go_loud (refine wpList_append_own _ rfl (.tmp 58) (.tmp 59) 29 rfl w2.heap.size 69 iR (.agg #[.int .i64 0, .slice none 0 0]) 2 32 Tryz.underlying29 hi hz0 hz1 hz2 rfl (by decide) (.slice Xo O.length ko) O.length (rNews S O) rfl HO.out Xa (Ra.length - p) ka (rNews S (Ra.drop p)) rfl (by rw [rNews_len, List.length_drop]) (fun j u hu => rps_cell HPaW.out j u hu) HOa.out (by unfold maxLen; omega) (by omega) HB.out.size ?_; intro v3 w6 hown hgrow _; have HB6 : Hid (Below w2.heap.size w2 w6) := HB.out.grown hgrow HB.out.size (fun b hb => (HO.out.lt b hb).1); have HR6 : Hid (w6.ownsRow w2.heap.size 69 2 v3 (O.length + (Ra.length - p)) (rNews S O ++ rNews S (Ra.drop p))) := hown; clear hown hgrow))
        obtain ⟨X6, k6, rfl, -⟩ := own_formR HR6.out
        have HPbW : Hid (RpAt w6 (some Xb) S (Rb.drop q)) := HPb.out.keep HB6.out
        go_wp2_with (at_builtin; go_loud (refine wpList_append_own _ rfl (.tmp 61) (.tmp 62) 29 rfl w2.heap.size 69 iR (.agg #[.int .i64 0, .slice none 0 0]) 2 32 Tryz.underlying29 hi hz0 hz1 hz2 rfl (by decide) (.slice X6 (O.length + (Ra.length - p)) k6) (O.length + (Ra.length - p)) (rNews S O ++ rNews S (Ra.drop p)) rfl HR6.out Xb (Rb.length - q) kb (rNews S (Rb.drop q)) rfl (by rw [rNews_len, List.length_drop]) (fun j u hu => rps_cell HPbW.out j u hu) HOb.out (by unfold maxLen; omega) (by omega) HB6.out.size ?_; intro v4 w7 hown hgrow _; have HB7 : Hid (Below w2.heap.size w2 w7) := HB6.out.grown hgrow HB6.out.size (fun b hb => (HR6.out.lt b hb).1); have HR7 : Hid (w7.ownsRow w2.heap.size 69 2 v4 (O.length + (Ra.length - p) + (Rb.length - q)) (rNews S O ++ rNews S (Ra.drop p) ++ rNews S (Rb.drop q))) := hown; clear hown hgrow))
        obtain ⟨X7, k7, rfl, hk7⟩ := own_formR HR7.out
        have HR8 : Hid (w7.ownsRow w2.heap.size 69 2 (.slice X7 M.length k7) M.length (rNews S M)) := by
          unfold Hid
          rw [HL.out, HV.out]
          exact HR7.out
        rw [← HL.out] at hk7
        clear HR7 HR6 HO HV
        go_ret
        exact ⟨M, X7, k7, by rw [HL.out]; rfl, row_rps HR8.out, hk7, HP.out, lb_trans HB2.out HB7.out⟩
    · have a1' : ¬ (0 : Int) < ((Ra.length - p : Nat) : Int) := by omega
      have hend : Ra.length ≤ p ∨ Rb.length ≤ q := .inl (by omega)
      have HDn := HM.out.done hend
      have HL : Hid ((List.merge Ra Rb (leQ nm)).length = O.length + (Ra.length - p) + (Rb.length - q)) := by
        unfold Hid
        rw [HDn]
        simp; omega
      have HV : Hid (rNews S (List.merge Ra Rb (leQ nm)) = rNews S O ++ rNews S (Ra.drop p) ++ rNews S (Rb.drop q)) := by
        unfold Hid
        rw [HDn, rNews_app, rNews_app]
      have HP : Hid (SrQ nm R (List.merge Ra Rb (leQ nm))) := by
        have h7 := HSa.out.merge HSb.out
        rw [HSp.out] at h7
        exact h7
      have HPaW : Hid (RpAt wr (some Xa) S (Ra.drop p)) := HPa.out.keep HB.out
      have HOa : Hid (∀ u ∈ rNews S (Ra.drop p), u.oneCell' = true) := rNews_one fun r hr => by
        obtain ⟨X7, c7, e7, _⟩ := (HTa.out r (List.mem_of_mem_drop hr)).2
        exact ⟨_, _, _, e7⟩
      have HOb : Hid (∀ u ∈ rNews S (Rb.drop q), u.oneCell' = true) := rNews_one fun r hr => by
        obtain ⟨X7, c7, e7, _⟩ := (HTb.out r (List.mem_of_mem_drop hr)).2
        exact ⟨_, _, _, e7⟩
      generalize List.merge Ra Rb (leQ nm) = M at *
      clear HDn HM hend
      go_upto_region 13 with (at_builtin; go_loud (refine wpList_append_own _ rfl (.tmp 58) (.tmp 59) 29 rfl w2.heap.size 69 iR (.agg #[.int .i64 0, .slice none 0 0]) 2 32 Tryz.underlying29 hi hz0 hz1 hz2 rfl (by decide) (.slice Xo O.length ko) O.length (rNews S O) rfl HO.out Xa (Ra.length - p) ka (rNews S (Ra.drop p)) rfl (by rw [rNews_len, List.length_drop]) (fun j u hu => rps_cell HPaW.out j u hu) HOa.out (by unfold maxLen; omega) (by omega) HB.out.size ?_; intro v3 w6 hown hgrow _; have HB6 : Hid (Below w2.heap.size w2 w6) := HB.out.grown hgrow HB.out.size (fun b hb => (HO.out.lt b hb).1); have HR6 : Hid (w6.ownsRow w2.heap.size 69 2 v3 (O.length + (Ra.length - p)) (rNews S O ++ rNews S (Ra.drop p))) := hown; clear hown hgrow))
      obtain ⟨X6, k6, rfl, -⟩ := own_formR HR6.out
      have HPbW : Hid (RpAt w6 (some Xb) S (Rb.drop q)) := HPb.out.keep HB6.out
      go_wp2_with (at_builtin; go_loud (refine wpList_append_own _ rfl (.tmp 61) (.tmp 62) 29 rfl w2.heap.size 69 iR (.agg #[.int .i64 0, .slice none 0 0]) 2 32 Tryz.underlying29 hi hz0 hz1 hz2 rfl (by decide) (.slice X6 (O.length + (Ra.length - p)) k6) (O.length + (Ra.length - p)) (rNews S O ++ rNews S (Ra.drop p)) rfl HR6.out Xb (Rb.length - q) kb (rNews S (Rb.drop q)) rfl (by rw [rNews_len, List.length_drop]) (fun j u hu => rps_cell HPbW.out j u hu) HOb.out (by unfold maxLen; omega) (by omega) HB6.out.size ?_; intro v4 w7 hown hgrow _; have HB7 : Hid (Below w2.heap.size w2 w7) := HB6.out.grown hgrow HB6.out.size (fun b hb => (HR6.out.lt b hb).1); have HR7 : Hid (w7.ownsRow w2.heap.size 69 2 v4 (O.length + (Ra.length - p) + (Rb.length - q)) (rNews S O ++ rNews S (Ra.drop p) ++ rNews S (Rb.drop q))) := hown; clear hown hgrow))
      obtain ⟨X7, k7, rfl, hk7⟩ := own_formR HR7.out
      have HR8 : Hid (w7.ownsRow w2.heap.size 69 2 (.slice X7 M.length k7) M.length (rNews S M)) := by
        unfold Hid
        rw [HL.out, HV.out]
        exact HR7.out
      rw [← HL.out] at hk7
      clear HR7 HR6 HO HV
      go_ret
      exact ⟨M, X7, k7, by rw [HL.out]; rfl, row_rps HR8.out, hk7, HP.out, lb_trans HB2.out HB7.out⟩

end Go.Proofs.YtokhclindfipbaaGreatDoor
