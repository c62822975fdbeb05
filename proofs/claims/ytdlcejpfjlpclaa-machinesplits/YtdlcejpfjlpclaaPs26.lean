/-
  The statement MachineSplits, walked.
-/
import Derived.Test.YtdlcejpfjlpclaaProg
import Derived.WalkKit
import Derived.WalkSpells
import Derived.WalkLawsBesides
import Derived.RowKit3
import Derived.Below
import Derived.Deep.QuietTactic
import Derived.BigQuiet
import Derived.WalkSmall
import Derived.Laws.Rows
import Derived.Test.YtdlcejpfjlpclaaPs25
namespace Go.Proofs.Ytdlcejpfjlpclaa
open Go.RowKit

set_option maxRecDepth 100000 in
set_option maxHeartbeats 8000000 in
theorem lawSplits (A1 A2 A3 : Option Addr) (c1 c2 c3 : Nat) (ent : Int) (text mem tape : List Int) (x0 x1 : Int) (w : World) (hT : IntsAt w A1 .u32 text) (hM : IntsAt w A2 .i64 mem) (hX : IntsAt w A3 .i64 tape) (hR : ∀ i, i < text.length → 0 ≤ nth text i ∧ nth text i < 4294967296) (h3 : A3 = none → c3 = 0) :
    Calls Try.prog 3 #[.agg #[.slice A1 text.length c1, .int .i64 ent, .slice A2 mem.length c2], .slice A3 tape.length c3, .agg #[.int .i64 x0, .int .i64 x1]] w fun e w' => e = .returned (.bool true) ∧ Below w.heap.size w w' := by
  obtain ⟨W, HW⟩ : ∃ W, Hid ((w.alloc (.cells #[.slice A1 text.length c1, .int .i64 ent, .slice A2 mem.length c2] 25)).alloc (.cells #[.int .i64 x0, .int .i64 x1] 26) = W) := ⟨_, rfl⟩
  have HB : Hid (Below w.heap.size w W) := by unfold Hid; rw [← HW.out]; exact lb_alloc (lb_alloc (Below.refl _ _) _) _
  have i0 : W.cell? ⟨w.heap.size, 0, none⟩ = some (.slice A1 text.length c1) := by rw [← HW.out]; simp [go_sem]
  have i1 : W.cell? ⟨w.heap.size, 1, none⟩ = some (.int .i64 ent) := by rw [← HW.out]; simp [go_sem]
  have i2 : W.cell? ⟨w.heap.size, 2, none⟩ = some (.slice A2 mem.length c2) := by rw [← HW.out]; simp [go_sem]
  have z0 : W.cell? ⟨w.heap.size + 1, 0, none⟩ = some (.int .i64 x0) := by rw [← HW.out]; simp [go_sem]
  have z1 : W.cell? ⟨w.heap.size + 1, 1, none⟩ = some (.int .i64 x1) := by rw [← HW.out]; simp [go_sem]
  have C0 := much_any A1 A2 A3 c1 c2 c3 ent text mem tape W
  have HMu : Hid (muchB text mem tape = false → text.length ≤ 32768 ∧ mem.length ≤ 16384 ∧ tape.length ≤ 16384) := fun h => by unfold muchB at h; simp at h; omega
  by_cases g0 : muchB text mem tape = true
  · rw [g0] at C0
    go_enter Try.func3, Try.ntmps3
    go_upto_region 1 with fail
    rw [HW.out]
    clear HW
    go_wp2_with (first
        | (go_at_call 5; refine C0.mono ?_; rintro e w1 ⟨rfl, hb1⟩; have y0 := lkeep hb1 z0; have y1 := lkeep hb1 z1)
        | (go_at_call 6; refine (works_any _).mono ?_; rintro e w2 ⟨rfl, hb2⟩))
    go_ret
    exact ⟨rfl, lb_trans HB.out (lb_trans hb1 hb2)⟩
  have g0 : muchB text mem tape = false := by simpa using g0
  obtain ⟨l1, l2, l3⟩ := HMu.out g0
  rw [g0] at C0
  clear g0 HMu
  by_cases g1 : x0 < 0
  · go_enter Try.func3, Try.ntmps3
    go_upto_region 1 with fail
    rw [HW.out]
    clear HW
    go_wp2_with (first
        | (go_at_call 5; refine C0.mono ?_; rintro e w1 ⟨rfl, hb1⟩; have y0 := lkeep hb1 z0; have y1 := lkeep hb1 z1)
        | (go_at_call 6; refine (works_any _).mono ?_; rintro e w2 ⟨rfl, hb2⟩))
    go_ret
    exact ⟨rfl, lb_trans HB.out (lb_trans hb1 hb2)⟩
  by_cases g2 : x1 < 0
  · go_enter Try.func3, Try.ntmps3
    go_upto_region 1 with fail
    rw [HW.out]
    clear HW
    go_wp2_with (first
        | (go_at_call 5; refine C0.mono ?_; rintro e w1 ⟨rfl, hb1⟩; have y0 := lkeep hb1 z0; have y1 := lkeep hb1 z1)
        | (go_at_call 6; refine (works_any _).mono ?_; rintro e w2 ⟨rfl, hb2⟩))
    go_ret
    exact ⟨rfl, lb_trans HB.out (lb_trans hb1 hb2)⟩
  by_cases g3 : 2000 < x0
  · go_enter Try.func3, Try.ntmps3
    go_upto_region 1 with fail
    rw [HW.out]
    clear HW
    go_wp2_with (first
        | (go_at_call 5; refine C0.mono ?_; rintro e w1 ⟨rfl, hb1⟩; have y0 := lkeep hb1 z0; have y1 := lkeep hb1 z1)
        | (go_at_call 6; refine (works_any _).mono ?_; rintro e w2 ⟨rfl, hb2⟩))
    go_ret
    exact ⟨rfl, lb_trans HB.out (lb_trans hb1 hb2)⟩
  by_cases g4 : 2000 < x1
  · go_enter Try.func3, Try.ntmps3
    go_upto_region 1 with fail
    rw [HW.out]
    clear HW
    go_wp2_with (first
        | (go_at_call 5; refine C0.mono ?_; rintro e w1 ⟨rfl, hb1⟩; have y0 := lkeep hb1 z0; have y1 := lkeep hb1 z1)
        | (go_at_call 6; refine (works_any _).mono ?_; rintro e w2 ⟨rfl, hb2⟩))
    go_ret
    exact ⟨rfl, lb_trans HB.out (lb_trans hb1 hb2)⟩
  obtain ⟨n0, e0⟩ := Int.eq_ofNat_of_zero_le (show 0 ≤ x0 by omega)
  obtain ⟨n1, e1⟩ := Int.eq_ofNat_of_zero_le (show 0 ≤ x1 by omega)
  subst e0 e1
  have q0 : n0 ≤ 2000 := by omega
  have q1 : n1 ≤ 2000 := by omega
  have C1 := fun (Z : World) (hZ : Below W.heap.size W Z) => new_any A1 A2 A3 c1 c2 c3 ent text mem tape Z (hT.keep (lb_trans HB.out hZ)) (hM.keep (lb_trans HB.out hZ)) (hX.keep (lb_trans HB.out hZ)) hR (by omega) (by omega) (by unfold maxLen; omega) h3
  clear hT hM hX
  by_cases hE : newE text tape mem ent = 0
  · have C2 : ∀ (Z : World), Below W.heap.size W Z → Calls Try.prog 7 #[.agg #[.slice A1 text.length c1, .int .i64 ent, .slice A2 mem.length c2], .slice A3 tape.length c3] Z fun e w' => ∃ P s, e = .returned (.tuple #[.pointer (some ⟨P, 0, none⟩), .int .i64 0]) ∧ PAt w' Z.heap.size P s (newM text tape mem ent) ∧ Below Z.heap.size Z w' := fun Z hZ => (C1 Z hZ).mono fun e w' k => by
      rcases k.2 with k2 | ⟨-, P, s, k3, k4⟩
      · exact absurd hE k2.1
      · exact ⟨P, s, k3, k4, k.1⟩
    clear C1
    obtain ⟨hF, hs0, hst⟩ := new_facts hE hR
    clear hE hR
    have HM0 : Hid ((newM text tape mem ent).steps = 0) := hs0
    clear hs0 hst
    generalize newM text tape mem ent = m0 at *
    obtain ⟨M1, M, A, D, E1, E2, E3, HA, HD, HF, HZ, hA, hD⟩ := splits_facts hF HM0.out n0 n1
    have hfM := HF.2
    have HF : Hid (Fine M1 ∧ Fine M) := HF
    have HA : Hid (M1.steps = A) := HA
    have HD : Hid (M.steps = A + D) := HD
    have E1 : Hid (runM n0 m0 = M1) := E1
    have E2 : Hid (runM n1 M1 = M) := E2
    have E3 : Hid (runM (n0 + n1) m0 = M) := E3
    have HZ : Hid (M.status = 0 → A + D = n0 + n1) := HZ
    have hsM : M.steps ≤ 4000 := by rw [HD.out]; omega
    go_enter Try.func3, Try.ntmps3
    go_upto_region 1 with fail
    rw [HW.out]
    clear HW
    go_upto_region 3 with (first
      | (go_at_call 5; refine C0.mono ?_; rintro e w1 ⟨rfl, hb1⟩; have y0 := lkeep hb1 z0; have y1 := lkeep hb1 z1; have j0 := lkeep hb1 i0; have j1 := lkeep hb1 i1; have j2 := lkeep hb1 i2))
    go_wp2_with fail
    refine (C2 w1 hb1).mono ?_
    rintro e w2 ⟨P1, s1, rfl, p1, hb2⟩
    have HB2 : Hid (Below W.heap.size W w2) := lb_trans hb1 hb2
    have HP1 : Hid (PAt w2 W.heap.size P1 s1 m0) := p1.mono hb1.size
    have k0 := lkeep hb2 j0
    have k1 := lkeep hb2 j1
    have k2 := lkeep hb2 j2
    clear hb1 hb2 j0 j1 j2 i0 i1 i2 p1
    go_wp2_with fail
    refine (C2 w2 HB2.out).mono ?_
    rintro e w3 ⟨P2, s2, rfl, p2, hb3⟩
    have HB3 : Hid (Below W.heap.size W w3) := lb_trans HB2.out hb3
    have HP : Hid (Pair w3 W.heap.size P1 s1 m0 P2 s2 m0) := Pair.two HP1.out p2 hb3 HB2.out.size
    clear hb3 p2 HP1 HB2 k0 k1 k2 C2
    have o0 := lkeep HB3.out z0
    have o1 := lkeep HB3.out z1
    clear y0 y1
    have R1 := run_to HP.out.p1 hF n0 A (by rw [HM0.out]; omega) E1.out (by rw [HA.out, HM0.out, Nat.zero_add])
    go_wp2_with fail
    refine R1.mono ?_
    rintro e w4 ⟨rfl, hn⟩
    have HB4 : Hid (Below W.heap.size W w4) := now_below hn HP.out.p1 HB3.out (Nat.le_refl _)
    obtain ⟨s1', hp⟩ := HP.out.left hn
    clear R1 hn HP o0 o1 s1
    have HP : Hid (Pair w4 W.heap.size P1 s1' M1 P2 s2 m0) := hp
    clear hp
    have o0 := lkeep HB4.out z0
    have o1 := lkeep HB4.out z1
    have R1 := run_to HP.out.p1 HF.out.1 n1 D (by rw [HA.out]; omega) E2.out (by rw [HD.out, HA.out])
    go_wp2_with fail
    refine R1.mono ?_
    rintro e w5 ⟨rfl, hn⟩
    have HB5 : Hid (Below W.heap.size W w5) := now_below hn HP.out.p1 HB4.out (Nat.le_refl _)
    obtain ⟨s1, hp⟩ := HP.out.left hn
    clear R1 hn HP o0 o1
    have HP : Hid (Pair w5 W.heap.size P1 s1 M P2 s2 m0) := hp
    clear hp
    have o0 := lkeep HB5.out z0
    have o1 := lkeep HB5.out z1
    have R1 : Calls Try.prog 8 #[.pointer (some ⟨P2, 0, none⟩), .int .i64 ((n0 : Int) + (n1 : Int))] w5 fun e w' => e = .returned (.tuple #[.int .i64 ((A : Int) + (D : Int)), .int .i8 M.status]) ∧ NowP w5 W.heap.size P2 s2 M w' := run_to HP.out.p2 hF (n0 + n1) (A + D) (by rw [HM0.out]; omega) E3.out (by rw [HD.out, HM0.out, Nat.zero_add])
    go_wp2_with fail
    refine R1.mono ?_
    rintro e w6 ⟨rfl, hn⟩
    have HB6 : Hid (Below W.heap.size W w6) := now_below hn HP.out.p2 HB5.out (Nat.le_refl _)
    obtain ⟨s2', hp⟩ := HP.out.right hn
    clear R1 hn HP o0 o1 s2
    have HP : Hid (Pair w6 W.heap.size P1 s1 M P2 s2' M) := hp
    clear hp HB3 HB4 HB5 E1 E2 E3
    have o0 := lkeep HB6.out z0
    have o1 := lkeep HB6.out z1
    have S1 := at_yes HP.out.p1 hfM
    have S2 := at_yes HP.out.p2 hfM
    have S3 : Calls Try.prog 10 #[.pointer (some ⟨P1, 0, none⟩)] w6 fun e w' => e = .returned (.int .i64 ((A : Int) + (D : Int))) ∧ w' = w6 := (steps_yes HP.out.p1 hfM).mono fun e w' k => ⟨by rw [k.1, HD.out]; rfl, k.2⟩
    have S4 := taken_yes HP.out.p1 hfM
    have S5 := taken_yes HP.out.p2 hfM
    go_wp2_with fail
    refine S1.mono ?_
    rintro e wq ⟨rfl, hwq⟩
    have hwq := hwq.symm
    subst hwq
    go_wp2_with fail
    refine S2.mono ?_
    rintro e wq ⟨rfl, hwq⟩
    have hwq := hwq.symm
    subst hwq
    go_wp2_with fail
    refine S3.mono ?_
    rintro e wq ⟨rfl, hwq⟩
    have hwq := hwq.symm
    subst hwq
    go_wp2_with fail
    refine S4.mono ?_
    rintro e wq ⟨rfl, hwq⟩
    have hwq := hwq.symm
    subst hwq
    go_wp2_with fail
    refine S5.mono ?_
    rintro e wq ⟨rfl, hwq⟩
    have hwq := hwq.symm
    subst hwq
    clear S1 S2 S3 S4 S5
    have T1 := memory_yes HP.out.p1 hfM (by omega)
    go_wp2_with fail
    refine T1.mono ?_
    rintro e w7 ⟨v1, rfl, r1, hb⟩
    have HB7 : Hid (Below W.heap.size W w7) := lb_trans HB6.out hb
    have HP7 : Hid (Pair w7 W.heap.size P1 s1 M P2 s2' M) := HP.out.keep hb
    obtain ⟨B1, u1, e7⟩ := own_form r1
    subst e7
    have HR1 : Hid (WordsAt w7 B1 M.mem) := row_w r1
    clear T1 r1 hb HP
    have T1 := memory_yes HP7.out.p2 hfM (by omega)
    go_wp2_with fail
    refine T1.mono ?_
    rintro e w8 ⟨v2, rfl, r2, hb⟩
    have HB8 : Hid (Below W.heap.size W w8) := lb_trans HB7.out hb
    have HP8 : Hid (Pair w8 W.heap.size P1 s1 M P2 s2' M) := HP7.out.keep hb
    obtain ⟨B2, u2, e8⟩ := own_form r2
    subst e8
    have T2 := eq_w B1 B2 u1 u2 M.mem w8 (HR1.out.keep hb) (row_w r2) (by have := hfM.mlen; omega)
    clear T1 r2 hb HP7 HR1
    go_wp2_with fail
    refine T2.mono ?_
    rintro e w9 ⟨rfl, hb⟩
    have HB9 : Hid (Below W.heap.size W w9) := lb_trans HB8.out hb
    have HP9 : Hid (Pair w9 W.heap.size P1 s1 M P2 s2' M) := HP8.out.keep hb
    clear T2 hb HP8
    have T1 := ports_yes HP9.out.p1 hfM (by omega)
    go_wp2_with fail
    refine T1.mono ?_
    rintro e wa ⟨v3, rfl, r3, hb⟩
    have HBa : Hid (Below W.heap.size W wa) := lb_trans HB9.out hb
    have HPa : Hid (Pair wa W.heap.size P1 s1 M P2 s2' M) := HP9.out.keep hb
    obtain ⟨B3, u3, e9⟩ := own_form r3
    subst e9
    have HR3 : Hid (PortsAt wa B3 M.ports) := row_p r3
    clear T1 r3 hb HP9
    have T1 := ports_yes HPa.out.p2 hfM (by omega)
    go_wp2_with fail
    refine T1.mono ?_
    rintro e wb ⟨v4, rfl, r4, hb⟩
    have HBb : Hid (Below W.heap.size W wb) := lb_trans HBa.out hb
    have HPb : Hid (Pair wb W.heap.size P1 s1 M P2 s2' M) := HPa.out.keep hb
    obtain ⟨B4, u4, ea⟩ := own_form r4
    subst ea
    have T2 := eq_p B3 B4 u3 u4 M.ports wb (HR3.out.keep hb) (row_p r4) (by have := hfM.ports; omega)
    clear T1 r4 hb HPa HR3
    go_wp2_with fail
    refine T2.mono ?_
    rintro e wc ⟨rfl, hb⟩
    have HBc : Hid (Below W.heap.size W wc) := lb_trans HBb.out hb
    have HPc : Hid (Pair wc W.heap.size P1 s1 M P2 s2' M) := HPb.out.keep hb
    clear T2 hb HPb
    by_cases hz : M.status = 0
    · have hq := HZ.out hz
      have hq2 : (((A : Int) + (D : Int)) == ((n0 : Int) + (n1 : Int))) = true := by simp; omega
      have o2 := lkeep HBc.out z0
      have o3 := lkeep HBc.out z1
      rw [hz]
      have HQ : Hid _ := hq
      clear hz hq HPc o0 o1
      go_wp2_with (first
        | (go_at_call 6; refine (works_any _).mono ?_; rintro e wz ⟨rfl, hbz⟩))
      go_ret
      exact ⟨rfl, lb_trans HB.out (lb_trans HBc.out hbz)⟩
    · have hz2 : (M.status != 0) = true := by simpa using hz
      have hz3 : (M.status == 0) = false := by simpa using hz
      have R1 := run_to HPc.out.p1 hfM 5 0 (by omega) (run_done hz 5) rfl
      have HDn : Hid (stepM M = M) := step_done hz
      clear hz o0 o1
      go_wp2_with fail
      refine R1.mono ?_
      rintro e wd ⟨rfl, hn⟩
      have HBd : Hid (Below W.heap.size W wd) := now_below hn HPc.out.p1 HBc.out (Nat.le_refl _)
      obtain ⟨s3, hp⟩ := HPc.out.left hn
      clear R1 hn HPc
      have R1 := step_any hp.p1 hfM (by omega)
      rw [HDn.out] at R1
      have HPd : Hid (Pair wd W.heap.size P1 s3 M P2 s2' M) := hp
      clear hp
      go_wp2_with fail
      refine R1.mono ?_
      rintro e we ⟨rfl, hn⟩
      have HBe : Hid (Below W.heap.size W we) := now_below hn HPd.out.p1 HBd.out (Nat.le_refl _)
      obtain ⟨s4, hp⟩ := HPd.out.left hn
      clear R1 hn HPd
      have S3 : Calls Try.prog 10 #[.pointer (some ⟨P1, 0, none⟩)] we fun e w' => e = .returned (.int .i64 ((A : Int) + (D : Int))) ∧ w' = we := (steps_yes hp.p1 hfM).mono fun e w' k => ⟨by rw [k.1, HD.out]; rfl, k.2⟩
      clear hp
      go_wp2_with fail
      refine S3.mono ?_
      rintro e wq ⟨rfl, hwq⟩
      have hwq := hwq.symm
      subst hwq
      go_wp2_with fail
      refine (works_any _).mono ?_
      rintro e wz ⟨rfl, hbz⟩
      go_wp2
      go_ret
      exact ⟨rfl, lb_trans HB.out (lb_trans HBe.out hbz)⟩
  · have C2 : ∀ (Z : World), Below W.heap.size W Z → Calls Try.prog 7 #[.agg #[.slice A1 text.length c1, .int .i64 ent, .slice A2 mem.length c2], .slice A3 tape.length c3] Z fun e w' => e = .returned (.tuple #[.pointer none, .int .i64 (newE text tape mem ent)]) ∧ Below Z.heap.size Z w' := fun Z hZ => (C1 Z hZ).mono fun e w' k => by
      rcases k.2 with k2 | k2
      · exact ⟨k2.2, k.1⟩
      · exact absurd k2.1 hE
    clear C1
    have hE2 : (newE text tape mem ent != 0) = true := by simpa using hE
    have hE3 : (newE text tape mem ent == 0) = false := by simpa using hE
    clear hE
    generalize newE text tape mem ent = E at *
    go_enter Try.func3, Try.ntmps3
    go_upto_region 1 with fail
    rw [HW.out]
    clear HW
    go_upto_region 3 with (first
      | (go_at_call 5; refine C0.mono ?_; rintro e w1 ⟨rfl, hb1⟩; have y0 := lkeep hb1 z0; have y1 := lkeep hb1 z1; have j0 := lkeep hb1 i0; have j1 := lkeep hb1 i1; have j2 := lkeep hb1 i2))
    go_wp2_with fail
    refine (C2 w1 hb1).mono ?_
    rintro e w2 ⟨rfl, hb2⟩
    have HB2 : Hid (Below W.heap.size W w2) := lb_trans hb1 hb2
    have k0 := lkeep hb2 j0
    have k1 := lkeep hb2 j1
    have k2 := lkeep hb2 j2
    clear hb1 hb2 j0 j1 j2 i0 i1 i2
    go_wp2_with fail
    refine (C2 w2 HB2.out).mono ?_
    rintro e w3 ⟨rfl, hb3⟩
    have HB3 : Hid (Below W.heap.size W w3) := lb_trans HB2.out hb3
    clear hb3
    go_wp2_with (first
      | (go_at_call 6; refine (works_any _).mono ?_; rintro e w4 ⟨rfl, hb4⟩))
    go_ret
    exact ⟨rfl, lb_trans HB.out (lb_trans HB3.out hb4)⟩

end Go.Proofs.Ytdlcejpfjlpclaa
