/-
  goThrough of package live: all that wait are taken out, in whatever order.
-/
import Derived.Test.YtmlhnnmelopleaaGreatDoorProg
import Derived.WalkKit
import Derived.WalkSpells
import Derived.WalkLawsBesides
import Derived.RowKit3
import Derived.Below
import Derived.Deep.QuietTactic
import Derived.BigQuiet
import Derived.WalkSmall
import Derived.Laws.Rows
import Derived.Test.YtmlhnnmelopleaaGreatDoorPs29
import Derived.Test.YtmlhnnmelopleaaGreatDoorPs34
namespace Go.Proofs.YtmlhnnmelopleaaGreatDoor
open Go.RowKit

set_option maxRecDepth 100000 in
set_option maxHeartbeats 8000000 in
theorem through_any (w0 : World) (M : List (List Int)) (P : Nat) (A : Option Addr) (c N gr gw gi go b n : Nat) (R W F G : Int → Nat) (f : Int → Bool) (w : World) (hZ : IntsZ w0 A (backT M N)) (hMl : M.length = N) (hN : N ≤ 1048576) (hS : SetsAt w P A c N gr gw gi go R W F G) (hm : Mks w b n f) (hG : Gp M N R W F G f noF 0 (lowS G N)) (hB : Below w0.heap.size w0 w) (hR : ∀ x, R x < 65536) (hW : ∀ x, W x < 65536) (hi : w0.heap.size ≤ gi ∧ w0.heap.size ≤ go ∧ w0.heap.size ≤ b) :
    Calls Tryz.prog 109 #[.pointer (some ⟨P, 0, none⟩), .map (some b)] w (ThP w0 M P A c N gr gw gi go R W (lowS G N)) := by
  have hmm := mkW
  have HL0 : Hid (lowS G N ≤ 65535 * N) := lowS_top _ _
  obtain ⟨L0, hL0⟩ : ∃ L0, lowS G N = L0 := ⟨_, rfl⟩
  rw [hL0] at hG HL0 ⊢
  clear hL0
  obtain ⟨X, HX⟩ : ∃ X, Hid (w.alloc (.map #[] 0) = X) := ⟨_, rfl⟩
  have HBX : Hid (Below w.heap.size w X) := by unfold Hid; rw [← HX.out]; exact lb_alloc (Below.refl _ _) _
  have HKX : Hid (Mks X w.heap.size 0 noF) := by unfold Hid; rw [← HX.out]; exact Mks.made w
  have HsX : Hid (X.heap.size = w.heap.size + 1) := by unfold Hid; rw [← HX.out]; simp
  have HbX : Hid (Mks X b n f) := hm.keep HBX.out
  have HSX : Hid (SetsAt X P A c N gr gw gi go R W F G) := hS.keep HBX.out
  have Hlb : Hid (b < w.heap.size) := hm.lt
  have HZ : Hid (IntsZ w0 A (backT M N)) := hZ
  have HBl : Hid (Below w0.heap.size w0 X) := lb_trans hB HBX.out
  have Hzw : Hid (w0.heap.size ≤ w.heap.size) := hB.size
  have HG : Hid (Gp M N R W F G f noF 0 L0) := hG
  have HR : Hid (∀ x, R x < 65536) := hR
  have HW : Hid (∀ x, W x < 65536) := hW
  have Hi : Hid (w0.heap.size ≤ gi ∧ w0.heap.size ≤ go ∧ w0.heap.size ≤ b) := hi
  have HMl : Hid (M.length = N) := hMl
  clear hZ hS hm hG hB hR hW hi hMl
  go_enter Tryz.func109, Tryz.ntmps109
  go_upto_region 2 with fail
  rw [HX.out]
  clear HX
  go_wp2_with (first
    | (at_range; refine wpList_rn_range _ rfl _ rfl b n f HbX.out rfl ?_; intro X2 cnt0 hrn0 hg0 hs0)
    | go_in)
  have HM0 : Hid (Gm w0 X2 P A c N gr gw gi go b X.heap.size w.heap.size n R W F G f f noF cnt0 0) := by
    have hb0 : Below X.heap.size X X2 := ⟨hg0.os, hg0.tape, hg0.output, hg0.size, fun k hk => hg0.block k hk (by simp)⟩
    have h1 := Hlb.out
    have h2 := HsX.out
    have h3 := Hzw.out
    exact ⟨hrn0, HKX.out.keep hb0, HSX.out.keep hb0, lb_trans HBl.out hb0, by omega, by omega, Hi.out.1, Hi.out.2.1, Hi.out.2.2, by omega, by omega⟩
  clear hrn0 hg0 hs0 HKX HbX HSX HBl HBX Hlb Hi Hzw
  generalize X.heap.size = r at *
  generalize w.heap.size = bA at *
  go_frame
  go_loopw [6] (fun _ wr => ∃ (cnt na : Nat) (F' G' : Int → Nat) (f' fa : Int → Bool), Hid (Gm w0 wr P A c N gr gw gi go b r bA n R W F' G' f' f' fa cnt na) ∧ Hid (Gp M N R W F' G' f' fa na L0)) (fun _ wr => wr.rangeLeft b r)
  case atStart => exact ⟨cnt0, 0, F, G, f, noF, HM0, HG⟩
  case round =>
    clear HM0 HG
    obtain ⟨cnt, na, F', G', f', fa, HM, HG⟩ := hrel
    go_wp2_with (first
      | (at_next; refine wpList_rn_next _ rfl _ rfl b r n f' f' cnt rfl HM.out.rn ?_ ?_)
      | go_in)
    · intro hl0
      have HE : Hid (ThP w0 M P A c N gr gw gi go R W L0 (.returned (.map (some bA))) wr) := by
        refine ⟨bA, na, F', G', fa, rfl, HM.out.an, HM.out.st, ⟨HG.out.wk.fit fun k _ => ?_, fun x hx => HG.out.inb x ?_, HG.out.low⟩, HM.out.bel, HM.out.hi.2.2.2.2⟩
        · unfold orB
          rw [hl0]
          simp [noF]
        · rcases hx with hx | hx
          · exact .inr hx
          · cases hx
      clear hl0
      go_wp2
      go_ret
      exact HE.out
    · intro x w1 cnt1 hx hx0 hx1 hrn1 hlt hg1 hs1 hen
      obtain ⟨hb0, hb1⟩ := HG.out.inb x (.inl hx)
      obtain ⟨k, rfl⟩ : ∃ k : Nat, x = (k : Int) := ⟨x.toNat, by omega⟩
      have HM1 : Hid (Gm w0 w1 P A c N gr gw gi go b r bA n R W F' G' f' (cutF f' (k : Int)) fa cnt1 na) := HM.out.step hrn1 hg1
      have Hlt : Hid (cnt1 < cnt) := hlt
      have Hle : Hid (wr.rangeLeft b r = cnt) := HM.out.rn.left
      have hkN : k < N := by omega
      have HGk : Hid (∀ l, Gq M N l k 0 R W (putS F' (k : Int) (insN (R (k : Int)) (W (k : Int)) (G' (k : Int)))) G' (cutF f' (k : Int)) fa na L0) := fun l => HG.out.take HR.out HW.out hkN hx
      have hGlt := (HG.out.lt (k : Int)).2
      have hRk := HR.out (k : Int)
      have hWk := HW.out (k : Int)
      clear hrn1 hg1 hs1 hlt HM hx hx0 hx1 HG hb0
      go_upto_region 6 with (at_delete; refine wpList_rn_delete _ rfl _ _ rfl b r n f' f' cnt1 HM1.out.rn (by omega) (by omega) rfl rfl ?_; intro w2 cnt2 hrn2 hle2 hg2 hs2; have HM2 : Hid (Gm w0 w2 P A c N gr gw gi go b r bA n R W F' G' (cutF f' (k : Int)) (cutF f' (k : Int)) fa cnt2 na) := HM1.out.drop hrn2 hg2; have Hle2 : Hid (cnt2 ≤ cnt1) := hle2; clear hrn2 hle2 hg2 hs2; go_frame)
      clear hen HM1
      generalize cutF f' (k : Int) = f2 at *
      obtain ⟨p0, p1, p2, p3, p4⟩ := HM2.out.st.cells
      have r0 := HM2.out.st.rd.cellN hkN
      have o0 := HM2.out.st.out.cellN hkN
      have t0 := HM2.out.st.wt.cellN hkN
      have s0 := HM2.out.st.inn.cellN hkN
      have s1 := HM2.out.st.inn.fro k
      have e1 := HM2.out.st.inn.neP HM2.out.st.box
      have e2 := HM2.out.st.ri
      have e3 := HM2.out.st.io.symm
      have e4 := HM2.out.st.wi
      have hless := lessI hGlt hWk
      have hor : bits .or .u16 ((R (k : Int) : Nat) : Int) ((lessN (G' (k : Int)) (W (k : Int)) : Nat) : Int) = ((insN (R (k : Int)) (W (k : Int)) (G' (k : Int)) : Nat) : Int) := orI hRk (lessN_lt hGlt)
      have HPF : Hid (∀ v : Nat, Gm w0 (w2.setCell ⟨gi, k, none⟩ (.int .u16 (v : Int))) P A c N gr gw gi go b r bA n R W (putS F' (k : Int) v) G' f2 f2 fa cnt2 na) := fun v => HM2.out.putF hkN v
      generalize insN (R (k : Int)) (W (k : Int)) (G' (k : Int)) = vi at *
      generalize lessN (G' (k : Int)) (W (k : Int)) = lo at *
      generalize G' (k : Int) = gk at *
      generalize R (k : Int) = rk at *
      generalize W (k : Int) = wk at *
      generalize F' (k : Int) = fk at *
      clear HM2
      go_cut [] (fun wc => Hid (wc = (w2.setCell ⟨gi, k, none⟩ (.int .u16 (vi : Int))).drew))
      case first =>
        go_region_held3 (fun Y => Y.cell? ⟨P, 0, none⟩ = some (.slice (some ⟨gr, 0, none⟩) N N) ∧ Y.cell? ⟨P, 1, none⟩ = some (.slice (some ⟨gw, 0, none⟩) N N) ∧ Y.cell? ⟨P, 2, none⟩ = some (.slice (some ⟨gi, 0, none⟩) N N) ∧ Y.cell? ⟨P, 3, none⟩ = some (.slice (some ⟨go, 0, none⟩) N N) ∧ Y.cell? ⟨gr, k, none⟩ = some (.int .u16 (rk : Int)) ∧ Y.cell? ⟨go, k, none⟩ = some (.int .u16 (gk : Int)) ∧ Y.cell? ⟨gw, k, none⟩ = some (.int .u16 (wk : Int))) (first | exact ⟨p0, p1, p2, p3, r0, o0, t0⟩ | exact ⟨cell_setO p0 e1, cell_setO p1 e1, cell_setO p2 e1, cell_setO p3 e1, cell_setO r0 e2, cell_setO o0 e3, cell_setO t0 e4⟩ | (simp [*]; done)) (fail)
        all_goals (rename_i hS; clear hS; go_wp2_with fail; go_meet; exact rfl)
      case rest =>
        have HM3 : Hid (Gm w0 wc P A c N gr gw gi go b r bA n R W (putS F' (k : Int) vi) G' f2 f2 fa cnt2 na) := by
          have h := (HPF.out vi).keep (Below.drew (Below.refl _ _))
          unfold Hid
          rw [hcut.out]
          exact h
        have HGk2 : Hid (∀ l, Gq M N l k 0 R W (putS F' (k : Int) vi) G' f2 fa na L0) := HGk
        generalize putS F' (k : Int) vi = F2 at *
        clear hcut HPF HGk p0 p1 p2 p3 p4 r0 o0 t0 s0 s1 e1 e2 e3 e4 hless hor hGlt hRk hWk
        have HBl : Hid ((backT M N).length = N) := backT_len M N
        obtain ⟨a, Rr, kk, ea, qa, qR⟩ := HZ.out k (by rw [HBl.out]; exact hkN)
        subst ea
        have q4 := HM3.out.st.cells.2.2.2.2
        have qa : wc.cell? (a.add k) = some (.slice Rr (rowZ (backT M N) k).length kk) := lkeep HM3.out.bel qa
        have HRow : Hid (IntsAt w0 Rr .i64 (rowZ (backT M N) k)) := qR
        have HAt : Hid (∀ t, t < (rowZ (backT M N) k).length → ∃ f : Nat, f < N ∧ nth (rowZ (backT M N) k) t = (f : Int) ∧ (k : Int) ∈ rowZ M f) := fun t ht => by
          have hMl := HMl.out
          subst hMl
          exact back_at hkN ht
        have HMem : Hid (∀ j : Nat, j < N → (k : Int) ∈ rowZ M j → (j : Int) ∈ rowZ (backT M N) k) := fun j hj h => by
          have hMl := HMl.out
          subst hMl
          exact back_mem hkN hj h
        have HGl := HGk2.out (rowZ (backT M N) k)
        have hlen : (rowZ (backT M N) k).length ≤ N := by
          unfold backT
          rw [rowZ_map hkN]
          have := plcT_len (backR M k) M.length
          have := HMl.out
          omega
        have HGl : Hid (Gq M N (rowZ (backT M N) k) k 0 R W F2 G' f2 fa na L0) := HGl
        clear qR HGk2
        generalize rowZ (backT M N) k = l at *
        have hkN' : (k : Int) < (N : Int) := by omega
        go_wp2
        go_loopw [55] (fun i wr => ∃ (m na : Nat) (G2 : Int → Nat) (fa : Int → Bool), i = .int .i64 m ∧ m ≤ l.length ∧ Hid (Gm w0 wr P (some a) c N gr gw gi go b r bA n R W F2 G2 f2 f2 fa cnt2 na) ∧ Hid (Gq M N l k m R W F2 G2 f2 fa na L0)) (fun i _ => l.length - (intOf i).toNat)
        case atStart => exact ⟨0, na, G', fa, rfl, Nat.zero_le _, HM3, HGl⟩
        case round =>
          clear HM3 HGl q4 qa
          obtain ⟨m, na, G2, fa, rfl, hm, HM, HQ⟩ := hrel
          by_cases hlt : m < l.length
          · have hlt' : (m : Int) < (l.length : Int) := by omega
            obtain ⟨ar, er, qr⟩ := (HRow.out.keep HM.out.bel) m hlt
            subst er
            obtain ⟨t, htN, et, hmem⟩ := HAt.out m hlt
            have htN' : (t : Int) < (N : Int) := by omega
            rw [et] at qr
            obtain ⟨p0, p1, p2, p3, p4⟩ := HM.out.st.cells
            have s0 := HM.out.st.inn.cellN hkN
            have o0 := HM.out.st.out.cellN htN
            have o1 := HM.out.st.out.fro t
            have hFk := (HQ.out.lt (k : Int)).1
            have hGt := (HQ.out.lt (t : Int)).2
            have hless := lessI hFk hGt
            have hor := orI hGt hFk
            have HSk : Hid (lessN (F2 (k : Int)) (G2 (t : Int)) = 0 → Gq M N l k (m + 1) R W F2 G2 f2 fa na L0) := fun e => HQ.out.skip et e
            have HOl : Hid (lessN (F2 (k : Int)) (G2 (t : Int)) ≠ 0 → f2 (t : Int) = true → Gq M N l k (m + 1) R W F2 (putS G2 (t : Int) (G2 (t : Int) ||| F2 (k : Int))) f2 fa na L0) := fun e h => HQ.out.old HW.out hkN htN et hmem e h
            have HNw : Hid (lessN (F2 (k : Int)) (G2 (t : Int)) ≠ 0 → Gq M N l k (m + 1) R W F2 (putS G2 (t : Int) (G2 (t : Int) ||| F2 (k : Int))) f2 (setF fa (t : Int)) (na + 1) L0) := fun e => HQ.out.new HW.out hkN htN et hmem e
            have HPG : Hid (∀ v : Nat, Gm w0 (wr.setCell ⟨go, t, none⟩ (.int .u16 (v : Int))) P (some a) c N gr gw gi go b r bA n R W F2 (putS G2 (t : Int) v) f2 f2 fa cnt2 na) := fun v => HM.out.putG htN v
            have hna := HQ.out.nalt HL0.out hN
            clear et hmem HQ
            generalize hlo : lessN (F2 (k : Int)) (G2 (t : Int)) = lo at *
            clear hlo
            generalize F2 (k : Int) = fk at *
            generalize G2 (t : Int) = gt at *
            generalize hvo : gt ||| fk = vo at *
            clear hvo
            by_cases hz : lo = 0
            · have HQ2 := HSk.out hz
              have HQ2 : Hid (Gq M N l k (m + 1) R W F2 G2 f2 fa na L0) := HQ2
              subst hz
              clear HSk HOl HNw HPG
              go_upto_region 10 with fail
              go_quiet (fail)
              go_wp2
              go_roundw
              case rel => exact ⟨m + 1, na, G2, fa, by go_num, by omega, HM.out.keep (below_drewN (Below.refl _ _) _), HQ2⟩
              case measure => simp [intOf]; omega
            · have hz2 : ((lo : Int) == 0) = false := by simpa using hz
              have HZ2 : Hid (lo ≠ 0) := hz
              clear hz HSk
              go_upto_region 10 with fail
              go_quiet (fail)
              obtain ⟨wq, hwq⟩ : ∃ wq, wr.drewN nq = wq := ⟨_, rfl⟩
              have hbq : Below wr.heap.size wr wq := by rw [← hwq]; exact below_drewN (Below.refl _ _) _
              have HMq : Hid (Gm w0 wq P (some a) c N gr gw gi go b r bA n R W F2 G2 f2 f2 fa cnt2 na) := HM.out.keep hbq
              have HPq : Hid (∀ v : Nat, Gm w0 (wq.setCell ⟨go, t, none⟩ (.int .u16 (v : Int))) P (some a) c N gr gw gi go b r bA n R W F2 (putS G2 (t : Int) v) f2 f2 fa cnt2 na) := fun v => HMq.out.putG htN v
              have p2q := lkeep hbq p2
              have p3q := lkeep hbq p3
              have s0q := lkeep hbq s0
              have o0q := lkeep hbq o0
              have o1q := HMq.out.st.out.fro t
              rw [hwq]
              clear hwq p0 p1 p2 p3 p4 s0 o0 o1 hbq HPG qr hz2 HMq hless
              go_upto_region 11 with fail
              go_cut [] (fun wc => Hid (wc = (wq.setCell ⟨go, t, none⟩ (.int .u16 (vo : Int))).drew))
              case first =>
                go_region_law (fail)
                all_goals (go_wp2_with fail; go_meet; exact rfl)
              case rest =>
                have HM4 : Hid (Gm w0 wc P (some a) c N gr gw gi go b r bA n R W F2 (putS G2 (t : Int) vo) f2 f2 fa cnt2 na) := by
                  have h := (HPq.out vo).keep (Below.drew (Below.refl _ _))
                  unfold Hid
                  rw [hcut.out]
                  exact h
                clear hcut HPq p2q p3q s0q o0q o1q HM hor
                have C1 := whas_any b n f2 (t : Int) wc HM4.out.rn.mks (by omega) (by omega)
                cases hf : f2 (t : Int) with
                | true =>
                  have HQ2 : Hid (Gq M N l k (m + 1) R W F2 (putS G2 (t : Int) vo) f2 fa na L0) := HOl.out HZ2.out hf
                  rw [hf] at C1
                  clear HOl HNw hf
                  go_wp2_with (go_at_call 114; refine C1.mono ?_; rintro e w5 ⟨rfl, hb5⟩; have HM5 : Hid (Gm w0 w5 P (some a) c N gr gw gi go b r bA n R W F2 (putS G2 (t : Int) vo) f2 f2 fa cnt2 na) := HM4.out.keep hb5; clear hb5)
                  go_roundw
                  case rel => exact ⟨m + 1, na, _, fa, by go_num, by omega, HM5, HQ2⟩
                  case measure => simp [intOf]; omega
                | false =>
                  have HQ2 : Hid (Gq M N l k (m + 1) R W F2 (putS G2 (t : Int) vo) f2 (setF fa (t : Int)) (na + 1) L0) := HNw.out HZ2.out
                  rw [hf] at C1
                  clear HOl HNw hf
                  have C2 := fun wx (hx : Mks wx bA na fa) => wput_any bA na fa (t : Int) wx hx hna (by omega) (by omega)
                  go_wp2_with (first
                    | (go_at_call 114; refine C1.mono ?_; rintro e w5 ⟨rfl, hb5⟩; have HM5 : Hid (Gm w0 w5 P (some a) c N gr gw gi go b r bA n R W F2 (putS G2 (t : Int) vo) f2 f2 fa cnt2 na) := HM4.out.keep hb5; clear hb5)
                    | (go_at_call 108; refine (C2 _ HM5.out.an).mono ?_; rintro e w6 ⟨rfl, hm6, hg6⟩; have HM6 : Hid (Gm w0 w6 P (some a) c N gr gw gi go b r bA n R W F2 (putS G2 (t : Int) vo) f2 f2 (setF fa (t : Int)) cnt2 (na + 1)) := HM5.out.putA hm6 hg6; clear hm6 hg6))
                  go_roundw
                  case rel => exact ⟨m + 1, na + 1, _, _, by go_num, by omega, HM6, HQ2⟩
                  case measure => simp [intOf]; omega
          · obtain rfl : m = l.length := by omega
            have HGp : Hid (Gp M N R W F2 G2 f2 fa na L0) := by
              have hq := HQ.out
              exact hq.done HMem.out rfl
            have Hlf : Hid (wr.rangeLeft b r = cnt2) := HM.out.rn.left
            go_wp2
            exact ⟨⟨cnt2, na, F2, G2, f2, fa, HM, HGp⟩, by rw [Hlf.out, Hle.out]; have := Hle2.out; have := Hlt.out; omega⟩


end Go.Proofs.YtmlhnnmelopleaaGreatDoor
