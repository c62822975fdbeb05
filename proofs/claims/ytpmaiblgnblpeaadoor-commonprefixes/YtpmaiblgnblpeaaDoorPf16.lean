/-
  The document's sorted and Array.
-/
import Derived.Test.YtpmaiblgnblpeaaDoorProg
import Derived.WalkKit
import Derived.WalkSpells
import Derived.WalkLawsBesides
import Derived.RowKit3
import Derived.Below
import Derived.Deep.QuietTactic
import Derived.BigQuiet
import Derived.WalkSmall
import Derived.Laws.Rows
import Derived.Test.YtpmaiblgnblpeaaDoorPf11
import Derived.Test.YtpmaiblgnblpeaaDoorPf12
import Derived.Test.YtpmaiblgnblpeaaDoorPf15
import Derived.Test.YtpmaiblgnblpeaaDoorPf09
import Derived.Test.YtpmaiblgnblpeaaDoorPf10
namespace Go.Proofs.YtpmaiblgnblpeaaDoor
open Go.RowKit

def lenV : Value → Nat
  | .slice _ n _ => n
  | _ => 0
def SrtR (l : List Int) (f t : Nat) (w : World) (e : Ending) (w' : World) : Prop := ∃ (R : List Nat) (A : Option Addr) (c : Nat), e = .returned (.slice A R.length c) ∧ w'.ownsRow w.heap.size 3 1 (.slice A R.length c) R.length (iVals .i64 (natL R)) ∧ SrtP l f t R ∧ Below w.heap.size w w'
def tlA (X : Addr) (c : Nat) : Addr := if c = 1 then X else X.add 1
theorem tail_run (X : Addr) (n c : Nat) (h0 : 0 < n) (_h : n ≤ c) (w : World) : (Instr.slice 22 (.slice (some X) n c) (some (.int .i64 1)) none none).run Tryd.prog w = .ok (.slice (some (tlA X c)) (n - 1) (c - 1)) w := by
  rw [run_slice_l (P := Tryd.prog) w 22 (some X) n c (by kernel_rfl) .i64 1 (by omega) (by omega)]
  rw [show (sizeOf (Tryd.prog.elem 22)).run Tryd.prog w = .ok 1 w by kernel_rfl]
  show Result.ok (sliced (some X) 1 n c 1) w = _
  unfold sliced tlA
  by_cases e : c = 1
  · rw [if_pos e, if_pos e]
  · rw [if_neg e, if_neg e]; rfl
theorem add_add1 (X : Addr) (i : Nat) : (X.add 1).add i = X.add (i + 1) := by
  unfold Addr.add
  by_cases e : i = 0
  · subst e; simp
  · simp [e]; omega
theorem tl_ints {w : World} {X : Addr} {x : Int} {L : List Int} {c : Nat} (h : IntsAt w (some X) .i64 (x :: L)) (hc : L.length + 1 ≤ c) : IntsAt w (some (tlA X c)) .i64 L := fun i hi => by
  obtain ⟨a, ea, q⟩ := h (i + 1) (by simpa using hi)
  obtain rfl := Option.some.inj ea
  refine ⟨_, rfl, ?_⟩
  unfold tlA
  rw [if_neg (by omega), add_add1]
  rw [q]; rfl
theorem hd_ints {w : World} {X : Addr} {x : Int} {L : List Int} (h : IntsAt w (some X) .i64 (x :: L)) : w.cell? X = some (.int .i64 x) := by
  obtain ⟨a, ea, q⟩ := h 0 (by simp)
  obtain rfl := Option.some.inj ea
  exact q
theorem natL_drop {R : List Nat} {p : Nat} (h : p < R.length) : natL (R.drop p) = ((snth R p : Nat) : Int) :: natL (R.drop (p + 1)) := by
  rw [ndrop h]; rfl
theorem ints_news {w : World} {X : Addr} {L : List Int} (h : IntsAt w (some X) .i64 L) (j : Nat) (u : Value) (hu : (iVals .i64 L)[j]? = some u) : w.cell? (X.add j) = some u := by
  have hj : j < L.length := by
    have := (List.getElem?_eq_some_iff.1 hu).1
    simpa [iVals] using this
  obtain ⟨a, ea, q⟩ := h j hj
  obtain rfl := Option.some.inj ea
  rw [q, ← hu, iVals_get hj]
theorem ints_one (L : List Int) : ∀ u ∈ iVals .i64 L, u.oneCell' = true := fun u hu => by
  unfold iVals at hu
  obtain ⟨x, _, rfl⟩ := List.mem_map.1 hu
  rfl
theorem iVals_app (L M : List Int) : iVals .i64 (L ++ M) = iVals .i64 L ++ iVals .i64 M := by simp [iVals]
theorem snth_mem {A : List Nat} {i : Nat} (h : i < A.length) : snth A i ∈ A := List.mem_of_getElem? (snth_get h)
theorem own_some {w : World} {b n c : Nat} {A : Option Addr} {xs : List Value} (h : w.ownsRow b 3 1 (.slice A n c) n xs) (h0 : 0 < n) : ∃ X, A = some X ∧ n ≤ c := by
  rcases h.2 with ⟨_, e⟩ | ⟨g, cap, cur, e, _, _, hc, _⟩
  · omega
  · cases e
    exact ⟨_, rfl, hc⟩
theorem own_form2 {w : World} {b n : Nat} {v : Value} {xs : List Value} (h : w.ownsRow b 3 1 v n xs) : ∃ A c, v = .slice A n c ∧ n ≤ c := by
  rcases h.2 with ⟨e, e2⟩ | ⟨g, cap, cur, e, _, _, hc, _⟩
  · exact ⟨none, 0, by rw [e, e2], by omega⟩
  · exact ⟨_, _, e, hc⟩
set_option maxRecDepth 100000 in
set_option maxHeartbeats 8000000 in
theorem refsorted_any (A : Option Addr) (c : Nat) (l : List Int) (hl : l.length ≤ 1048576) (n : Nat) : ∀ (f t : Nat) (w : World), t - f = n → f ≤ t → t ≤ l.length → IntsAt w A .i64 l →
    Calls Tryd.prog 16 #[.slice A l.length c, .int .i64 (f : Int), .int .i64 (t : Int)] w (SrtR l f t w) := by
  induction n using Nat.strongRecOn with
  | _ n ih =>
  intro f t w hn hft htl hA
  by_cases n0 : n = 0
  · obtain rfl : t = f := by omega
    have e0 : ((t : Int) - (t : Int) == 0) = true := by simp
    clear ih
    go_enter Tryd.func16, Tryd.ntmps16
    go_wp2
    go_ret
    exact ⟨[], none, 0, rfl, World.ownsRow_nil _ _ _ _, SrtP.none l t, Below.refl _ _⟩
  have e0 : ((t : Int) - (f : Int) == 0) = false := by rw [beq_eq_false_iff_ne]; omega
  by_cases n1 : n = 1
  · have e1 : ((t : Int) - (f : Int) == 1) = true := by rw [beq_iff_eq]; omega
    clear ih
    go_enter Tryd.func16, Tryd.ntmps16
    go_wp2
    go_ret
    exact ⟨[f], some ⟨w.heap.size, 0, none⟩, 1, rfl, ⟨rfl, .inr ⟨w.heap.size, 1, _, rfl, Nat.le_refl _, heap_alloc_new _ _, Nat.le_refl _, by unfold maxLen; omega, rfl, rfl⟩⟩, SrtP.one (by omega), lb_alloc (Below.refl _ _) _⟩
  have e1 : ((t : Int) - (f : Int) == 1) = false := by rw [beq_eq_false_iff_ne]; omega
  obtain ⟨m, hm⟩ : ∃ m, m = (f + t) / 2 := ⟨_, rfl⟩
  have hq : Int.tdiv ((f : Int) + (t : Int)) 2 = ((m : Nat) : Int) := by
    rw [hm, ← tdiv_two]; simp
  have hm1 : f < m := by omega
  have hm2 : m < t := by omega
  have I1 := ih (m - f) (by omega) f m w rfl (by omega) (by omega) hA
  have I2 := fun w1 (h : Below w.heap.size w w1) => ih (t - m) (by omega) m t w1 rfl (by omega) htl (hA.keep h)
  have HA : Hid (IntsAt w A .i64 l) := hA
  obtain ⟨iI, hi, hz0, hz1, hz2⟩ := infoI
  clear ih hA hm
  go_enter Tryd.func16, Tryd.ntmps16
  go_wp2_with fail
  refine I1.mono ?_
  rintro e w1 ⟨Ra, Aa, ca, rfl, hoa, hsa, hb1⟩
  have HB1 : Hid (Below w.heap.size w w1) := hb1
  clear I1
  go_wp2_with fail
  refine (I2 _ HB1.out).mono ?_
  rintro e w2 ⟨Rb, Ab, cb, rfl, hob, hsb, hb2⟩
  have la : Ra.length ≤ 1048576 := by have := hsa.len; omega
  have lb : Rb.length ≤ 1048576 := by have := hsb.len; omega
  obtain ⟨Xa, rfl, hca⟩ := own_some hoa (by have := hsa.len; omega)
  obtain ⟨Xb, rfl, hcb⟩ := own_some hob (by have := hsb.len; omega)
  have HB2 : Hid (Below w.heap.size w w2) := lb_trans HB1.out hb2
  have HIa : Hid (IntsAt w2 (some Xa) .i64 (natL (Ra.drop 0))) := (row_ints (l := natL Ra) (by rw [natL_len]; exact hoa)).keep hb2
  have HIb : Hid (IntsAt w2 (some Xb) .i64 (natL (Rb.drop 0))) := row_ints (l := natL Rb) (by rw [natL_len]; exact hob)
  have HSa : Hid (SrtP l f m Ra) := hsa
  have HSb : Hid (SrtP l m t Rb) := hsb
  clear I2 hoa hob hsa hsb hb1 hb2 HB1 e0 e1 hq
  go_wp2
  go_loopw [8, 9, 10] (fun va vb vo wr => ∃ (p q : Nat) (O : List Nat) (Xa Xb : Addr) (Xo : Option Addr) (ka kb ko : Nat), va = .slice (some Xa) (Ra.length - p) ka ∧ vb = .slice (some Xb) (Rb.length - q) kb ∧ vo = .slice Xo O.length ko ∧ p ≤ Ra.length ∧ q ≤ Rb.length ∧ Hid (O.length = p + q) ∧ Ra.length - p ≤ ka ∧ Rb.length - q ≤ kb ∧ Hid (IntsAt w2 (some Xa) .i64 (natL (Ra.drop p))) ∧ Hid (IntsAt w2 (some Xb) .i64 (natL (Rb.drop q))) ∧ Hid (Mrg l Ra Rb O p q) ∧ Hid (wr.ownsRow w2.heap.size 3 1 (.slice Xo O.length ko) O.length (iVals .i64 (natL O))) ∧ Hid (Below w2.heap.size w2 wr)) (fun va vb _ _ => lenV va + lenV vb)
  case atStart => exact ⟨0, 0, [], Xa, Xb, none, ca, cb, 0, rfl, rfl, rfl, Nat.zero_le _, Nat.zero_le _, rfl, hca, hcb, HIa, HIb, Mrg.start l Ra Rb, World.ownsRow_nil _ _ _ _, Below.refl _ _⟩
  case round =>
    clear HIa HIb hca hcb
    obtain ⟨p, q, O, Xa, Xb, Xo, ka, kb, ko, rfl, rfl, rfl, hp, hq, hO, hka, hkb, HIa, HIb, HM, HO, HB⟩ := hrel
    have hOle : O.length ≤ 2097152 := by have := hO.out; omega
    by_cases a1 : p < Ra.length
    · have a1' : (0 : Int) < ((Ra.length - p : Nat) : Int) := by omega
      by_cases a2 : q < Rb.length
      · have a2' : (0 : Int) < ((Rb.length - q : Nat) : Int) := by omega
        have ha := HIa.out
        rw [natL_drop a1] at ha
        have hb := HIb.out
        rw [natL_drop a2] at hb
        have HTa : Hid (IntsAt w2 (some (tlA Xa ka)) .i64 (natL (Ra.drop (p + 1)))) := tl_ints ha (by rw [natL_len, List.length_drop]; omega)
        have HTb : Hid (IntsAt w2 (some (tlA Xb kb)) .i64 (natL (Rb.drop (q + 1)))) := tl_ints hb (by rw [natL_len, List.length_drop]; omega)
        have HQa : Hid (∀ Z, Below w2.heap.size w2 Z → Z.cell? Xa = some (.int .i64 ((snth Ra p : Nat) : Int))) := fun Z hZ => lkeep hZ (hd_ints ha)
        have HQb : Hid (∀ Z, Below w2.heap.size w2 Z → Z.cell? Xb = some (.int .i64 ((snth Rb q : Nat) : Int))) := fun Z hZ => lkeep hZ (hd_ints hb)
        have q1 := HQa.out _ HB.out
        have q2 := HQb.out _ HB.out
        have ra := tail_run Xa (Ra.length - p) ka (by omega) hka
        have rb := tail_run Xb (Rb.length - q) kb (by omega) hkb
        have b1 : snth Ra p < m := HSa.out.lt (snth_mem a1)
        have b2 : snth Rb q < t := HSb.out.lt (snth_mem a2)
        have CL := fun Z (hZ : Below w2.heap.size w2 Z) => refless_any A c l (snth Rb q) (snth Ra p) Z (HA.out.keep (lb_trans HB2.out hZ)) hl (by omega) (by omega)
        have HL : Hid (lsS l (snth Rb q) (snth Ra p) = false → Mrg l Ra Rb (O ++ [snth Ra p]) (p + 1) q) := fun h => HM.out.left a1 a2 h
        have HRt : Hid (lsS l (snth Rb q) (snth Ra p) = true → Mrg l Ra Rb (O ++ [snth Rb q]) p (q + 1)) := fun h => HM.out.right a1 a2 h
        clear ha hb
        have hXX := Below.refl wr.heap.size wr
        cases hs : lsS l (snth Rb q) (snth Ra p) with
        | true =>
          have HM2 : Hid (Mrg l Ra Rb (O ++ [snth Rb q]) p (q + 1)) := HRt.out hs
          rw [hs] at CL
          clear hs HL HRt HM HTa ra HIb
          generalize snth Ra p = x at *
          generalize snth Rb q = y at *
          go_upto_region 10 with fail
          go_region_held3 (fun W => W.cell? Xa = some (.int .i64 (x : Int)) ∧ W.cell? Xb = some (.int .i64 (y : Int))) (first | exact ⟨q1, q2⟩ | exact ⟨lkeep hY q1, lkeep hY q2⟩) (first | (go_at_call 43; refine (CL _ (by first | exact HB.out.drew | exact HB.out)).mono ?_; rintro e w5 ⟨rfl, hb5⟩; have hY : Below wr.heap.size wr w5 := (by first | exact hb5 | exact lb_trans hXX.drew hb5); clear hb5))
          rename_i hS
          clear hS
          have HB5 : Hid (Below w2.heap.size w2 w5) := lb_trans HB.out hY
          have HO5 : Hid (w5.ownsRow w2.heap.size 3 1 (.slice Xo O.length ko) O.length (iVals .i64 (natL O))) := row_keep HO.out hY
          clear q1 q2
          have q2 := HQb.out _ HB5.out
          have HBa : Hid (Below w2.heap.size w2 (w5.alloc (.cells #[.int .i64 (y : Int)] 3))) := lb_alloc HB5.out _
          have HRa : Hid ((w5.alloc (.cells #[.int .i64 (y : Int)] 3)).ownsRow w2.heap.size 3 1 (.slice Xo O.length ko) O.length (iVals .i64 (natL O))) := row_keep HO5.out (lb_alloc (Below.refl _ _) _)
          go_wp2_with (at_builtin; go_loud (refine wpList_append_own _ rfl (.tmp 49) (.tmp 53) 22 rfl w2.heap.size 3 iI (.int .i64 0) 1 8 Tryd.underlying22 hi hz0 hz1 hz2 rfl (by decide) (.slice Xo O.length ko) O.length (iVals .i64 (natL O)) rfl HRa.out ⟨w5.heap.size, 0, none⟩ 1 1 [.int .i64 (y : Int)] rfl rfl (fun j u hu => World.news_of_block (new_at (by simp)) j u hu) one_oneI (by unfold maxLen; omega) (by omega) HBa.out.size ?_; intro v3 w6 hown hgrow _; have HB6 : Hid (Below w2.heap.size w2 w6) := HBa.out.grown hgrow HBa.out.size (fun b hb => (HRa.out.lt b hb).1); have HR6 : Hid (w6.ownsRow w2.heap.size 3 1 v3 (O.length + 1) (iVals .i64 (natL O) ++ [.int .i64 (y : Int)])) := hown; clear hown hgrow))
          obtain ⟨X6, k6, rfl, -⟩ := own_form2 HR6.out
          have HR7 : Hid (w6.ownsRow w2.heap.size 3 1 (.slice X6 (O ++ [y]).length k6) (O ++ [y]).length (iVals .i64 (natL (O ++ [y])))) := by
            unfold Hid
            rw [natL_app, iVals_app, List.length_append]
            exact HR6.out
          go_roundw
          case rel => exact ⟨p, q + 1, O ++ [y], Xa, tlA Xb kb, X6, ka, kb - 1, k6, rfl, by rw [show Rb.length - (q + 1) = Rb.length - q - 1 by omega], by rw [List.length_append]; rfl, hp, by omega, by unfold Hid; rw [List.length_append, hO.out]; simp; omega, hka, by omega, HIa, HTb, HM2, HR7, HB6⟩
          case measure => simp [lenV]; omega
        | false =>
          have HM2 : Hid (Mrg l Ra Rb (O ++ [snth Ra p]) (p + 1) q) := HL.out hs
          rw [hs] at CL
          clear hs HL HRt HM HTb rb HIa
          generalize snth Ra p = x at *
          generalize snth Rb q = y at *
          go_upto_region 10 with fail
          go_region_held3 (fun W => W.cell? Xa = some (.int .i64 (x : Int)) ∧ W.cell? Xb = some (.int .i64 (y : Int))) (first | exact ⟨q1, q2⟩ | exact ⟨lkeep hY q1, lkeep hY q2⟩) (first | (go_at_call 43; refine (CL _ (by first | exact HB.out.drew | exact HB.out)).mono ?_; rintro e w5 ⟨rfl, hb5⟩; have hY : Below wr.heap.size wr w5 := (by first | exact hb5 | exact lb_trans hXX.drew hb5); clear hb5))
          rename_i hS
          clear hS
          have HB5 : Hid (Below w2.heap.size w2 w5) := lb_trans HB.out hY
          have HO5 : Hid (w5.ownsRow w2.heap.size 3 1 (.slice Xo O.length ko) O.length (iVals .i64 (natL O))) := row_keep HO.out hY
          clear q1 q2
          have q1 := HQa.out _ HB5.out
          have HBa : Hid (Below w2.heap.size w2 (w5.alloc (.cells #[.int .i64 (x : Int)] 3))) := lb_alloc HB5.out _
          have HRa : Hid ((w5.alloc (.cells #[.int .i64 (x : Int)] 3)).ownsRow w2.heap.size 3 1 (.slice Xo O.length ko) O.length (iVals .i64 (natL O))) := row_keep HO5.out (lb_alloc (Below.refl _ _) _)
          go_wp2_with (at_builtin; go_loud (refine wpList_append_own _ rfl (.tmp 57) (.tmp 61) 22 rfl w2.heap.size 3 iI (.int .i64 0) 1 8 Tryd.underlying22 hi hz0 hz1 hz2 rfl (by decide) (.slice Xo O.length ko) O.length (iVals .i64 (natL O)) rfl HRa.out ⟨w5.heap.size, 0, none⟩ 1 1 [.int .i64 (x : Int)] rfl rfl (fun j u hu => World.news_of_block (new_at (by simp)) j u hu) one_oneI (by unfold maxLen; omega) (by omega) HBa.out.size ?_; intro v3 w6 hown hgrow _; have HB6 : Hid (Below w2.heap.size w2 w6) := HBa.out.grown hgrow HBa.out.size (fun b hb => (HRa.out.lt b hb).1); have HR6 : Hid (w6.ownsRow w2.heap.size 3 1 v3 (O.length + 1) (iVals .i64 (natL O) ++ [.int .i64 (x : Int)])) := hown; clear hown hgrow))
          obtain ⟨X6, k6, rfl, -⟩ := own_form2 HR6.out
          have HR7 : Hid (w6.ownsRow w2.heap.size 3 1 (.slice X6 (O ++ [x]).length k6) (O ++ [x]).length (iVals .i64 (natL (O ++ [x])))) := by
            unfold Hid
            rw [natL_app, iVals_app, List.length_append]
            exact HR6.out
          go_roundw
          case rel => exact ⟨p + 1, q, O ++ [x], tlA Xa ka, Xb, X6, ka - 1, kb, k6, by rw [show Ra.length - (p + 1) = Ra.length - p - 1 by omega], rfl, by rw [List.length_append]; rfl, by omega, hq, by unfold Hid; rw [List.length_append, hO.out]; simp; omega, by omega, hkb, HTa, HIb, HM2, HR7, HB6⟩
          case measure => simp [lenV]; omega
      · have a2' : ¬ (0 : Int) < ((Rb.length - q : Nat) : Int) := by omega
        have he : Ra.length ≤ p ∨ Rb.length ≤ q := .inr (by omega)
        have HD := HM.out.done he
        have HL : Hid ((List.merge Ra Rb (leS l)).length = O.length + (Ra.length - p) + (Rb.length - q)) := by
          unfold Hid
          rw [HD]
          simp; omega
        have HV : Hid (iVals .i64 (natL (List.merge Ra Rb (leS l))) = iVals .i64 (natL O) ++ iVals .i64 (natL (Ra.drop p)) ++ iVals .i64 (natL (Rb.drop q))) := by
          unfold Hid
          rw [HD, natL_app, natL_app, iVals_app, iVals_app]
        have HP : Hid (SrtP l f t (List.merge Ra Rb (leS l))) := SrtP.merge (by omega) (by omega) HSa.out HSb.out
        have HIaW : Hid (IntsAt wr (some Xa) .i64 (natL (Ra.drop p))) := HIa.out.keep HB.out
        generalize List.merge Ra Rb (leS l) = R at *
        clear HD HM he
        go_upto_region 16 with (at_builtin; go_loud (refine wpList_append_own _ rfl (.tmp 65) (.tmp 66) 22 rfl w2.heap.size 3 iI (.int .i64 0) 1 8 Tryd.underlying22 hi hz0 hz1 hz2 rfl (by decide) (.slice Xo O.length ko) O.length (iVals .i64 (natL O)) rfl HO.out Xa (Ra.length - p) ka (iVals .i64 (natL (Ra.drop p))) rfl (by simp [iVals, natL]) (fun j u hu => ints_news HIaW.out j u hu) (ints_one _) (by unfold maxLen; omega) (by omega) HB.out.size ?_; intro v3 w6 hown hgrow _; have HB6 : Hid (Below w2.heap.size w2 w6) := HB.out.grown hgrow HB.out.size (fun b hb => (HO.out.lt b hb).1); have HR6 : Hid (w6.ownsRow w2.heap.size 3 1 v3 (O.length + (Ra.length - p)) (iVals .i64 (natL O) ++ iVals .i64 (natL (Ra.drop p)))) := hown; clear hown hgrow))
        obtain ⟨X6, k6, rfl, -⟩ := own_form2 HR6.out
        have HIbW : Hid (IntsAt w6 (some Xb) .i64 (natL (Rb.drop q))) := HIb.out.keep HB6.out
        go_wp2_with (at_builtin; go_loud (refine wpList_append_own _ rfl (.tmp 68) (.tmp 69) 22 rfl w2.heap.size 3 iI (.int .i64 0) 1 8 Tryd.underlying22 hi hz0 hz1 hz2 rfl (by decide) (.slice X6 (O.length + (Ra.length - p)) k6) (O.length + (Ra.length - p)) (iVals .i64 (natL O) ++ iVals .i64 (natL (Ra.drop p))) rfl HR6.out Xb (Rb.length - q) kb (iVals .i64 (natL (Rb.drop q))) rfl (by simp [iVals, natL]) (fun j u hu => ints_news HIbW.out j u hu) (ints_one _) (by unfold maxLen; omega) (by omega) HB6.out.size ?_; intro v4 w7 hown hgrow _; have HB7 : Hid (Below w2.heap.size w2 w7) := HB6.out.grown hgrow HB6.out.size (fun b hb => (HR6.out.lt b hb).1); have HR7 : Hid (w7.ownsRow w2.heap.size 3 1 v4 (O.length + (Ra.length - p) + (Rb.length - q)) (iVals .i64 (natL O) ++ iVals .i64 (natL (Ra.drop p)) ++ iVals .i64 (natL (Rb.drop q)))) := hown; clear hown hgrow))
        obtain ⟨X7, k7, rfl, -⟩ := own_form2 HR7.out
        go_ret
        exact ⟨R, X7, k7, by rw [HL.out]; rfl, by rw [HL.out, HV.out]; exact ownsRow_mono HR7.out HB2.out.size, HP.out, lb_trans HB2.out HB7.out⟩
    · have a1' : ¬ (0 : Int) < ((Ra.length - p : Nat) : Int) := by omega
      have he : Ra.length ≤ p ∨ Rb.length ≤ q := .inl (by omega)
      have HD := HM.out.done he
      have HL : Hid ((List.merge Ra Rb (leS l)).length = O.length + (Ra.length - p) + (Rb.length - q)) := by
        unfold Hid
        rw [HD]
        simp; omega
      have HV : Hid (iVals .i64 (natL (List.merge Ra Rb (leS l))) = iVals .i64 (natL O) ++ iVals .i64 (natL (Ra.drop p)) ++ iVals .i64 (natL (Rb.drop q))) := by
        unfold Hid
        rw [HD, natL_app, natL_app, iVals_app, iVals_app]
      have HP : Hid (SrtP l f t (List.merge Ra Rb (leS l))) := SrtP.merge (by omega) (by omega) HSa.out HSb.out
      have HIaW : Hid (IntsAt wr (some Xa) .i64 (natL (Ra.drop p))) := HIa.out.keep HB.out
      generalize List.merge Ra Rb (leS l) = R at *
      clear HD HM he
      go_upto_region 16 with (at_builtin; go_loud (refine wpList_append_own _ rfl (.tmp 65) (.tmp 66) 22 rfl w2.heap.size 3 iI (.int .i64 0) 1 8 Tryd.underlying22 hi hz0 hz1 hz2 rfl (by decide) (.slice Xo O.length ko) O.length (iVals .i64 (natL O)) rfl HO.out Xa (Ra.length - p) ka (iVals .i64 (natL (Ra.drop p))) rfl (by simp [iVals, natL]) (fun j u hu => ints_news HIaW.out j u hu) (ints_one _) (by unfold maxLen; omega) (by omega) HB.out.size ?_; intro v3 w6 hown hgrow _; have HB6 : Hid (Below w2.heap.size w2 w6) := HB.out.grown hgrow HB.out.size (fun b hb => (HO.out.lt b hb).1); have HR6 : Hid (w6.ownsRow w2.heap.size 3 1 v3 (O.length + (Ra.length - p)) (iVals .i64 (natL O) ++ iVals .i64 (natL (Ra.drop p)))) := hown; clear hown hgrow))
      obtain ⟨X6, k6, rfl, -⟩ := own_form2 HR6.out
      have HIbW : Hid (IntsAt w6 (some Xb) .i64 (natL (Rb.drop q))) := HIb.out.keep HB6.out
      go_wp2_with (at_builtin; go_loud (refine wpList_append_own _ rfl (.tmp 68) (.tmp 69) 22 rfl w2.heap.size 3 iI (.int .i64 0) 1 8 Tryd.underlying22 hi hz0 hz1 hz2 rfl (by decide) (.slice X6 (O.length + (Ra.length - p)) k6) (O.length + (Ra.length - p)) (iVals .i64 (natL O) ++ iVals .i64 (natL (Ra.drop p))) rfl HR6.out Xb (Rb.length - q) kb (iVals .i64 (natL (Rb.drop q))) rfl (by simp [iVals, natL]) (fun j u hu => ints_news HIbW.out j u hu) (ints_one _) (by unfold maxLen; omega) (by omega) HB6.out.size ?_; intro v4 w7 hown hgrow _; have HB7 : Hid (Below w2.heap.size w2 w7) := HB6.out.grown hgrow HB6.out.size (fun b hb => (HR6.out.lt b hb).1); have HR7 : Hid (w7.ownsRow w2.heap.size 3 1 v4 (O.length + (Ra.length - p) + (Rb.length - q)) (iVals .i64 (natL O) ++ iVals .i64 (natL (Ra.drop p)) ++ iVals .i64 (natL (Rb.drop q)))) := hown; clear hown hgrow))
      obtain ⟨X7, k7, rfl, -⟩ := own_form2 HR7.out
      go_ret
      exact ⟨R, X7, k7, by rw [HL.out]; rfl, by rw [HL.out, HV.out]; exact ownsRow_mono HR7.out HB2.out.size, HP.out, lb_trans HB2.out HB7.out⟩



end Go.Proofs.YtpmaiblgnblpeaaDoor
