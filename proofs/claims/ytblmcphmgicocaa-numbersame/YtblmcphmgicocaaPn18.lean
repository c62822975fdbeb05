/-
  The law NumberSame, from what is asked of the program.
-/
import Derived.Test.YtblmcphmgicocaaProg
import Derived.WalkKit
import Derived.WalkSpells
import Derived.WalkLawsBesides
import Derived.RowKit3
import Derived.Below
import Derived.Deep.QuietTactic
import Derived.BigQuiet
import Derived.WalkSmall
import Derived.Laws.Rows
import Derived.Test.YtblmcphmgicocaaPn16
import Derived.Test.YtblmcphmgicocaaPn17
import Derived.Test.YtblmcphmgicocaaPn07
import Derived.Test.YtblmcphmgicocaaPn13
import Derived.Test.YtblmcphmgicocaaPn03
namespace Go.Proofs.Ytblmcphmgicocaa
open Go.RowKit

theorem own_nil5 {w : World} {base e sz n c : Nat} {xs : List Value} (h : w.ownsRow base e sz (.slice none n c) n xs) : c = 0 := by
  rcases h.2 with ⟨e, rfl⟩ | ⟨g, cap, cur, e, _⟩
  · cases e; rfl
  · cases e
theorem max_step (text : List Int) (i : Nat) : (fstP text i = i ∧ numN text i = rnk text i ∧ rnk text (i + 1) = rnk text i + 1) ∨ (numN text i < rnk text i ∧ rnk text (i + 1) = rnk text i) := by
  have h := rnk_step text i
  by_cases e : fstP text i = i
  · rw [if_pos e] at h
    exact .inl ⟨e, num_new e, h⟩
  · rw [if_neg e] at h
    have := fstP_le text i
    exact .inr ⟨rnk_lt (fstP_new text i) (by omega), h⟩
set_option maxRecDepth 100000 in
theorem refcheck_far (A1 A2 : Option Addr) (c1 ml c2 : Nat) (ent : Int) (text : List Int) (w : World) (hl : 16384 < text.length ∨ 4096 < ml) :
    Calls Try.prog 4 #[.agg #[.slice A1 text.length c1, .int .i64 ent, .slice A2 ml c2]] w (ChkP (checkI text ml ent).1 (checkI text ml ent).2 w) := by
  by_cases h0 : text.length = 0
  · rw [check0 h0, h0]
    go_enter Try.func4, Try.ntmps4
    go_wp2
    go_ret2
    exact ⟨rfl, lb_alloc (Below.refl _ _) _⟩
  have n0 : ((text.length : Int) == 0) = false := by simpa using h0
  by_cases h1 : 16384 < text.length
  · rw [check1 h0 h1]
    go_enter Try.func4, Try.ntmps4
    go_wp2
    go_ret2
    exact ⟨rfl, lb_alloc (Below.refl _ _) _⟩
  have h2 : 4096 < ml := by omega
  rw [check2 h0 h1 h2]
  go_enter Try.func4, Try.ntmps4
  go_wp2
  go_ret2
  exact ⟨rfl, lb_alloc (Below.refl _ _) _⟩
set_option maxRecDepth 100000 in
set_option maxHeartbeats 8000000 in
theorem lawSame (ho : OfOK) (hs : SameOK) (hc : CountOK) (A1 A2 : Option Addr) (c1 c2 : Nat) (ent : Int) (text mem : List Int) (w : World) (hT : IntsAt w A1 .u32 text) (hM : IntsAt w A2 .i64 mem) (hR : ∀ i, i < text.length → 0 ≤ nth text i ∧ nth text i < 4294967296) (h01 : A1 = none → c1 = 0) (h02 : A2 = none → c2 = 0) :
    Calls Try.prog 3 #[.agg #[.slice A1 text.length c1, .int .i64 ent, .slice A2 mem.length c2]] w fun e w' => e = .returned (.bool true) ∧ Below w.heap.size w w' := by
  obtain ⟨W0, HW⟩ : ∃ W0, Hid (w.alloc (.cells #[.slice A1 text.length c1, .int .i64 ent, .slice A2 mem.length c2] 25) = W0) := ⟨_, rfl⟩
  have HB0 : Hid (Below w.heap.size w W0) := by unfold Hid; rw [← HW.out]; exact lb_alloc (Below.refl _ _) _
  have i0 : W0.cell? ⟨w.heap.size, 0, none⟩ = some (.slice A1 text.length c1) := by rw [← HW.out]; simp [go_sem]
  have i1 : W0.cell? ⟨w.heap.size, 1, none⟩ = some (.int .i64 ent) := by rw [← HW.out]; simp [go_sem]
  have i2 : W0.cell? ⟨w.heap.size, 2, none⟩ = some (.slice A2 mem.length c2) := by rw [← HW.out]; simp [go_sem]
  have LV := fun wx => lives_any ho hs hc wx
  have CC : Calls Try.prog 4 #[.agg #[.slice A1 text.length c1, .int .i64 ent, .slice A2 mem.length c2]] W0 (ChkP (checkI text mem.length ent).1 (checkI text mem.length ent).2 W0) := by
    by_cases hf : 16384 < text.length ∨ 4096 < mem.length
    · exact refcheck_far A1 A2 c1 mem.length c2 ent text W0 hf
    · exact refcheck_any A1 A2 c1 mem.length c2 ent text W0 (hT.keep HB0.out) hR (by omega) (by omega)
  have HT0 : Hid (IntsAt W0 A1 .u32 text) := hT.keep HB0.out
  have HM0 : Hid (IntsAt W0 A2 .i64 mem) := hM.keep HB0.out
  have HR : Hid (∀ i, i < text.length → 0 ≤ nth text i ∧ nth text i < 4294967296) := hR
  have HI : Hid (∀ Z, Below W0.heap.size W0 Z → Z.cell? ⟨w.heap.size, 0, none⟩ = some (.slice A1 text.length c1) ∧ Z.cell? ⟨w.heap.size, 1, none⟩ = some (.int .i64 ent) ∧ Z.cell? ⟨w.heap.size, 2, none⟩ = some (.slice A2 mem.length c2)) := fun Z hZ => ⟨lkeep hZ i0, lkeep hZ i1, lkeep hZ i2⟩
  clear hT hM hR
  by_cases hbig : 300 < text.length ∨ 8192 < mem.length ∨ (checkI text mem.length ent).1 ≠ 0
  · unfold ChkP at CC
    generalize (checkI text mem.length ent).1 = E at *
    generalize (checkI text mem.length ent).2 = E2 at *
    clear ho hs hc
    go_enter Try.func3, Try.ntmps3
    go_upto_region 1 with fail
    rw [HW.out]
    clear HW
    go_upto_region 2 with (go_at_call 4; refine CC.mono ?_; rintro e W1 ⟨rfl, hb1⟩)
    have HB1 : Hid (Below w.heap.size w W1) := lb_trans HB0.out hb1
    clear i0 i1 i2
    obtain ⟨i0, i1, i2⟩ := HI.out W1 hb1
    clear hb1 CC
    by_cases h1 : 300 < text.length
    · have h1' : (300 : Int) < (text.length : Int) := by omega
      go_wp2_with (go_at_call 5; refine (LV _).mono ?_; rintro e W2 ⟨rfl, hb2⟩)
      go_ret
      exact ⟨rfl, lb_trans HB1.out hb2⟩
    have h1' : ¬ (300 : Int) < (text.length : Int) := by omega
    by_cases h2 : 8192 < mem.length
    · have h2' : (8192 : Int) < (mem.length : Int) := by omega
      go_wp2_with (go_at_call 5; refine (LV _).mono ?_; rintro e W2 ⟨rfl, hb2⟩)
      go_ret
      exact ⟨rfl, lb_trans HB1.out hb2⟩
    have h2' : ¬ (8192 : Int) < (mem.length : Int) := by omega
    have h3 : (E == 0) = false := by simpa using (by omega : E ≠ 0)
    have h4 : E ≠ 0 := by omega
    go_wp2_with (go_at_call 5; refine (LV _).mono ?_; rintro e W2 ⟨rfl, hb2⟩)
    go_ret
    exact ⟨rfl, lb_trans HB1.out hb2⟩
  have h1 : text.length ≤ 300 := by omega
  have h2 : mem.length ≤ 8192 := by omega
  have h1' : (text.length : Int) ≤ 300 := by omega
  have h2' : (mem.length : Int) ≤ 8192 := by omega
  have hE : (checkI text mem.length ent).1 = 0 := by omega
  have CI := fun Z (hZ : Below W0.heap.size W0 Z) => copyimg_any A1 A2 c1 c2 text mem ent Z (HT0.out.keep hZ) (HM0.out.keep hZ) h01 h02 (by omega) (by omega)
  have CO := fun (B1 B2 : Option Addr) (k1 k2 : Nat) (Z : World) (hB : IntsAt Z B1 .u32 text) => ho.ok B1 B2 k1 mem.length k2 ent text Z hB HR.out (by omega) (by omega) hE
  rw [hE] at CC
  have CN := fun (B : Option Addr) (k : Nat) (Z : World) (hB : IntsAt Z B .i64 (numL text text.length)) => hc B k (numL text text.length) Z hB (fun i hi => by rw [numL_len] at hi; rw [numL_nth hi]; have := num_le text i; have := rnk_up text i; omega) (by rw [numL_len]; omega)
  rw [numL_len, cnt_num (Nat.le_refl _)] at CN
  have HLn : Hid ((numL text text.length).length = text.length) := numL_len _ _
  have HNt : Hid (∀ k, k < text.length → nth (numL text text.length) k = ((numN text k : Nat) : Int)) := fun k hk => numL_nth hk
  clear hbig ho hs hc hE
  unfold ChkP at CC
  generalize (checkI text mem.length ent).2 = E2 at *
  go_enter Try.func3, Try.ntmps3
  go_upto_region 1 with fail
  rw [HW.out]
  clear HW
  go_upto_region 2 with (go_at_call 4; refine CC.mono ?_; rintro e W1 ⟨rfl, hb1⟩)
  have HB1 : Hid (Below W0.heap.size W0 W1) := hb1
  clear i0 i1 i2
  obtain ⟨i0, i1, i2⟩ := HI.out W1 hb1
  clear hb1 CC
  go_upto_region 5 with (first
    | (go_at_call 7; refine (CI _ HB1.out).mono ?_; rintro e W2 ⟨B1, B2, k1, k2, rfl, hrows, hb2⟩; have HR2 : Hid (IntsAt W2 B1 .u32 text) := row_ints hrows.r1; have HB2 : Hid (Below W0.heap.size W0 W2) := lb_trans HB1.out hb2; clear hrows hb2)
    | (go_at_call 6; refine (CO _ _ _ _ _ HR2.out).mono ?_; rintro e W3 ⟨O, co, rfl, hown, hb3⟩; have HB3 : Hid (Below W0.heap.size W0 W3) := lb_trans HB2.out hb3; have HO3 : Hid (IntsAt W3 O .i64 (numL text text.length)) := row_ints (by rw [HLn.out]; exact hown); have HON : Hid (O = none → co = 0) := (fun e => by subst e; exact own_nil5 hown); clear hown hb3))
  clear i0 i1 i2 HR2 HB2 HB1
  obtain ⟨i0, i1, i2⟩ := HI.out W3 HB3.out
  have HX : Hid (∀ Z, Below W3.heap.size W3 Z → Z.cell? ⟨w.heap.size, 0, none⟩ = some (.slice A1 text.length c1)) := fun Z hZ => (HI.out Z (lb_trans HB3.out hZ)).1
  have HT3 : Hid (IntsAt W3 A1 .u32 text) := HT0.out.keep HB3.out
  clear HI HT0 HM0 CI CO
  go_wp2
  clear i0 i1 i2

  go_loopw [7, 8] (fun m i wr => ∃ k : Nat, i = .int .i64 k ∧ m = .int .i64 ((rnk text k : Int) - 1) ∧ k ≤ text.length ∧ Hid (Below W3.heap.size W3 wr)) (fun _ i _ => text.length - (intOf i).toNat)
  case atStart => exact ⟨0, rfl, rfl, Nat.zero_le _, Below.refl _ _⟩
  case round =>
    obtain ⟨i, rfl, rfl, hk, HB⟩ := hrel
    by_cases hlt : i < text.length
    · have hlt' : (i : Int) < (text.length : Int) := by omega
      have hru := rnk_up text i
      have hst := max_step text i
      have HNS : Hid (∀ k, k < i → (numN text i = numN text k ↔ (nth text i = nth text k ∧ alB (nth text i) = false))) := fun k hk => num_same hk
      obtain ⟨v0, v1⟩ := HR.out i hlt
      have HAl : Hid (alB (nth text i) = (decide (dOp (nth text i) < 0) || decide (dOp (nth text i) = 16) || (decide (dD (nth text i) = 15 ∨ dA (nth text i) = 15 ∨ dB (nth text i) = 15) && !decide (dOp (nth text i) = 19)))) := alone_is _ v0
      have CD := fun wx => isadecode_any (nth text i) v0 v1 wx
      obtain ⟨o, eo, q1⟩ := (HO3.out.keep HB.out) i (by rw [HLn.out]; exact hlt)
      rw [HNt.out i hlt] at q1
      subst eo
      obtain ⟨a, ea, q2⟩ := (HT3.out.keep HB.out) i hlt
      subst ea
      have i0 := HX.out wr HB.out
      obtain ⟨m, hm⟩ : ∃ m, m = numN text i := ⟨_, rfl⟩
      rw [← hm] at q1
      have hm1 : m ≤ 300 := by have := num_le text i; omega
      have HS : Hid (((rnk text (i + 1) : Nat) : Int) - 1 = if (m : Int) ≤ (rnk text i : Int) - 1 then (rnk text i : Int) - 1 else (m : Int)) := by
        unfold Hid
        rcases hst with ⟨_, e1, e2⟩ | ⟨e1, e2⟩
        · rw [e2, if_neg (by omega)]; omega
        · rw [e2, if_pos (by omega)]
      have hmr : m ≤ rnk text i := by have := num_le text i; omega
      have HMm : Hid (m = numN text i) := hm
      clear hst hm v0 v1
      generalize rnk text i = r at *
      go_upto_region 13 with fail
      obtain ⟨mx, HMx⟩ : ∃ mx : Int, Hid (((rnk text (i + 1) : Nat) : Int) - 1 = mx) := ⟨_, rfl⟩
      rw [HMx.out] at HS
      go_cut [7] (fun x wx => Hid (x = .int .i64 mx) ∧ Hid (wx = wr))
      case first =>
        go_wp2
        all_goals (go_meet; exact ⟨by unfold Hid; first | rw [HS.out, if_pos (by assumption)] | rw [HS.out, if_neg (by omega)], rfl⟩)
      case rest =>
        have h7 := hcut.1.out
        have h8 := hcut.2.out.symm
        subst h7
        subst h8
        clear hcut HS
        generalize hvi : nth text i = vi at *
        generalize dOp vi = op at *
        generalize dD vi = dd at *
        generalize dA vi = da at *
        generalize dB vi = db at *
        generalize dN vi = dn at *
        go_upto_region 15 with (go_at_call 8; refine (CD _).mono ?_; rintro e w5 ⟨rfl, hb5⟩)
        obtain ⟨X, HXw⟩ : ∃ X, Hid (w5.alloc (.cells #[.int .i8 op, .int .i8 dd, .int .i8 da, .int .i8 db, .int .i64 dn] 36) = X) := ⟨_, rfl⟩
        have HB5 : Hid (Below W3.heap.size W3 X) := by unfold Hid; rw [← HXw.out]; exact lb_alloc (lb_trans HB.out hb5) _
        have d0 : X.cell? ⟨w5.heap.size, 0, none⟩ = some (.int .i8 op) := by rw [← HXw.out]; simp [go_sem]
        have d1 : X.cell? ⟨w5.heap.size, 1, none⟩ = some (.int .i8 dd) := by rw [← HXw.out]; simp [go_sem]
        have d2 : X.cell? ⟨w5.heap.size, 2, none⟩ = some (.int .i8 da) := by rw [← HXw.out]; simp [go_sem]
        have d3 : X.cell? ⟨w5.heap.size, 3, none⟩ = some (.int .i8 db) := by rw [← HXw.out]; simp [go_sem]
        rw [HXw.out]
        clear HXw hb5 HB q1 q2 i0 CD
        generalize w5.heap.size = g at *
        go_cut [10] (fun x wx => Hid (x = .bool (decide (dd = 15 ∨ da = 15 ∨ db = 15))) ∧ Hid (wx = X))
        case first =>
          clear HAl
          by_cases e1 : dd = 15
          · subst e1
            go_wp2
            go_meet
            exact ⟨by unfold Hid; simp, rfl⟩
          have f1 : (dd == 15) = false := by simpa using e1
          by_cases e2 : da = 15
          · subst e2
            go_wp2
            go_meet
            exact ⟨by unfold Hid; simp, rfl⟩
          have f2 : (da == 15) = false := by simpa using e2
          by_cases e3 : db = 15
          · subst e3
            go_wp2
            go_meet
            exact ⟨by unfold Hid; simp, rfl⟩
          have f3 : (db == 15) = false := by simpa using e3
          go_wp2
          go_meet
          exact ⟨by unfold Hid; simp [e1, e2, e3], rfl⟩
        case rest =>
          have h7 := hcut.1.out
          have h8 := hcut.2.out.symm
          subst h7
          subst h8
          clear hcut d1 d2 d3
          generalize decide (dd = 15 ∨ da = 15 ∨ db = 15) = lk at *
          generalize hal : alB vi = al at *
          clear hal
          go_upto_region 16 with fail
          go_cut [11] (fun x wx => Hid (x = .bool al) ∧ Hid (wx = X))
          case first =>
            clear HNS
            by_cases e1 : op < 0
            · go_wp2
              go_meet
              exact ⟨by unfold Hid; rw [HAl.out]; simp [e1], rfl⟩
            by_cases e2 : op = 16
            · subst e2
              go_wp2
              go_meet
              exact ⟨by unfold Hid; rw [HAl.out]; simp, rfl⟩
            have f2 : (op == 16) = false := by simpa using e2
            cases lk with
            | false =>
              go_wp2
              go_meet
              exact ⟨by unfold Hid; rw [HAl.out]; simp [e1, e2], rfl⟩
            | true =>
              by_cases e3 : op = 19
              · subst e3
                go_wp2
                go_meet
                exact ⟨by unfold Hid; rw [HAl.out]; simp, rfl⟩
              have f3 : (op == 19) = false := by simpa using e3
              go_wp2
              go_meet
              exact ⟨by unfold Hid; rw [HAl.out]; simp [e3], rfl⟩
          case rest =>
            have h7 := hcut.1.out
            have h8 := hcut.2.out.symm
            subst h7
            subst h8
            clear hcut d0 HAl
            go_wp2
            go_loopw [12] (fun k wr2 => ∃ k' : Nat, k = .int .i64 k' ∧ k' ≤ i ∧ Hid (Below W3.heap.size W3 wr2)) (fun k _ => i - (intOf k).toNat)
            case atStart => exact ⟨0, rfl, Nat.zero_le _, HB5⟩
            case round =>
              clear HB5
              obtain ⟨k, rfl, hk2, HB6⟩ := hrel
              by_cases hki : k < i
              · have hki' : (k : Int) < (i : Int) := by omega
                have hkt : (k : Int) < (text.length : Int) := by omega
                have hns := HNS.out k hki
                rw [← HMm.out] at hns
                obtain ⟨o2, eo, q1⟩ := (HO3.out.keep HB6.out) i (by rw [HLn.out]; exact hlt)
                obtain rfl := Option.some.inj eo
                rw [HNt.out i hlt, ← HMm.out] at q1
                obtain ⟨o2, eo, q3⟩ := (HO3.out.keep HB6.out) k (by rw [HLn.out]; omega)
                obtain rfl := Option.some.inj eo
                rw [HNt.out k (by omega)] at q3
                obtain ⟨a2, ea, q2⟩ := (HT3.out.keep HB6.out) i hlt
                obtain rfl := Option.some.inj ea
                rw [hvi] at q2
                obtain ⟨a2, ea, q4⟩ := (HT3.out.keep HB6.out) k (by omega)
                obtain rfl := Option.some.inj ea
                have i0 := HX.out wr HB6.out
                generalize numN text k = nk at *
                generalize nth text k = vk at *
                clear hvi
                cases al with
                | true =>
                  have f1 : ((m : Int) == (nk : Int)) = false := by
                    have : ¬ m = nk := fun e => by have := (hns.1 e).2; cases this
                    simp; omega
                  clear hns
                  by_cases hv : vi = vk
                  · subst hv
                    go_upto_region 20 with fail
                    go_quiet (fail)
                    go_wp2
                    go_roundw
                    case rel => exact ⟨k + 1, by go_num, by omega, below_drewN HB6.out _⟩
                    case measure => simp [intOf]; omega
                  · have f2 : (vi == vk) = false := by simpa using hv
                    go_upto_region 20 with fail
                    go_quiet (fail)
                    go_wp2
                    go_roundw
                    case rel => exact ⟨k + 1, by go_num, by omega, below_drewN HB6.out _⟩
                    case measure => simp [intOf]; omega
                | false =>
                  by_cases hv : vi = vk
                  · subst hv
                    have e1 : m = nk := hns.2 ⟨rfl, rfl⟩
                    subst e1
                    clear hns
                    go_upto_region 20 with fail
                    go_quiet (fail)
                    go_wp2
                    go_roundw
                    case rel => exact ⟨k + 1, by go_num, by omega, below_drewN HB6.out _⟩
                    case measure => simp [intOf]; omega
                  · have f2 : (vi == vk) = false := by simpa using hv
                    have f1 : ((m : Int) == (nk : Int)) = false := by
                      have : ¬ m = nk := fun e => hv (hns.1 e).1
                      simp; omega
                    clear hns
                    go_upto_region 20 with fail
                    go_quiet (fail)
                    go_wp2
                    go_roundw
                    case rel => exact ⟨k + 1, by go_num, by omega, below_drewN HB6.out _⟩
                    case measure => simp [intOf]; omega
              · obtain rfl : k = i := by omega
                go_wp2
                go_roundw
                case rel => exact ⟨k + 1, by go_num, by rw [HMx.out], by omega, HB6⟩
                case measure => simp [intOf]; omega
    · obtain rfl : i = text.length := by omega
      have hru := rnk_up text text.length
      have CI := copyints_any O co (numL text text.length) wr (HO3.out.keep HB.out) HON.out (by rw [HLn.out]; omega)
      rw [HLn.out] at CI
      have HBw : Hid (Below w.heap.size w wr) := lb_trans HB0.out (lb_trans HB3.out HB.out)
      generalize rnk text text.length = R at *
      go_wp2_with (first
        | (go_at_call 10; refine CI.mono ?_; rintro e w5 ⟨O2, cap, rfl, hown, hg, _⟩; have HB5 : Hid (Below w.heap.size w w5) := lb_trans HBw.out ((Below.refl _ _).grown hg (Nat.le_refl _) (fun j hj => by cases hj)); have HO5 : Hid (IntsAt w5 O2 .i64 (numL text text.length)) := row_ints (by rw [HLn.out]; exact hown); clear hown hg)
        | (go_at_call 9; refine (CN _ _ _ HO5.out).mono ?_; rintro e w6 ⟨rfl, hb6⟩; have HB6 : Hid (Below w.heap.size w w6) := lb_trans HB5.out hb6; clear hb6)
        | (go_at_call 5; refine (LV _).mono ?_; rintro e w7 ⟨rfl, hb7⟩))
      go_ret
      exact ⟨rfl, lb_trans HB6.out hb7⟩

end Go.Proofs.Ytblmcphmgicocaa
