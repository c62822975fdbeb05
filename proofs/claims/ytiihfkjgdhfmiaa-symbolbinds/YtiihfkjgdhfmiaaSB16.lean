/-
  Resolve of the document. A world in which some blocks have been written over; no Go in sight. What the walk of SymbolBinds reads.
-/
import Derived.Test.YtiihfkjgdhfmiaaProg
import Derived.WalkKit
import Derived.WalkSpells
import Derived.WalkLawsBesides
import Derived.RowKit3
import Derived.Below
import Derived.Deep.QuietTactic
import Derived.BigQuiet
import Derived.WalkSmall
import Derived.Laws.Rows
import Derived.Test.YtiihfkjgdhfmiaaSB06
import Derived.Test.YtiihfkjgdhfmiaaSB15
import Derived.Test.YtiihfkjgdhfmiaaSB09
import Derived.Test.YtiihfkjgdhfmiaaSB05
import Derived.Test.YtiihfkjgdhfmiaaSB08
import Derived.Test.YtiihfkjgdhfmiaaSB10
namespace Go.Proofs.Ytiihfkjgdhfmiaa
open Go.RowKit

theorem info37 : ∃ i, Try.prog.info? 37 = some i ∧ i.zero = some (.agg #[.int .i64 0, .int .i64 0]) ∧ i.size = 2 ∧ i.bytes = 16 :=
  ⟨(Try.prog.info? 37).get (by kernel_rfl), by kernel_rfl, by kernel_rfl, by kernel_rfl, by kernel_rfl⟩
theorem info59 : ∃ i, Try.prog.info? 70 = some i ∧ i.zero = some (.slice none 0 0) ∧ i.size = 1 ∧ i.bytes = 24 :=
  ⟨(Try.prog.info? 70).get (by kernel_rfl), by kernel_rfl, by kernel_rfl, by kernel_rfl, by kernel_rfl⟩
theorem ret4S {A : Option Addr} {n c : Nat} {a b d e f g : Int} (h1 : a = b) (h2 : d = e) (h3 : f = g) : Ending.returned (.tuple #[.slice A n c, .int .i64 a, .int .i64 d, .int .i64 f]) = .returned (.tuple #[.slice A n c, .int .i64 b, .int .i64 e, .int .i64 g]) := by rw [h1, h2, h3]
theorem res_err {TS TD : TypeId} {l : List Ob} {w w1 : World} {x : Int × Int × Int} (h : resE l = some x) (hb : Below w.heap.size w w1) : ResP TS TD l w (.returned (.tuple #[.slice none 0 0, .int .i64 x.1, .int .i64 x.2.1, .int .i64 x.2.2])) w1 := by
  have hl : resL l = [] := by unfold resL; rw [h]
  refine ⟨none, 0, [], ?_, ?_, hb⟩
  · rw [hl, h]; rfl
  · rw [hl]; exact RowsD.nil _ _ _ _
theorem two_keep {w0 w1 : World} {g t : Nat} {u v : Value} (h : w0.heap[g]? = some (.cells #[u, v] t (0, 0))) (hb : Below w0.heap.size w0 w1) : w1.cell? ⟨g, 0, none⟩ = some u ∧ w1.cell? ⟨g, 1, none⟩ = some v ∧ w1.frozen? ⟨g, 0, none⟩ = false ∧ w1.frozen? ⟨g, 1, none⟩ = false := by
  have hg : g < w0.heap.size := by
    by_cases hg : g < w0.heap.size
    · exact hg
    · rw [Array.getElem?_eq_none (by omega)] at h; cases h
  have h1 : w1.heap[g]? = some (.cells #[u, v] t (0, 0)) := by rw [hb.block g hg]; exact h
  refine ⟨?_, ?_, ?_, ?_⟩ <;> simp [World.cell?, World.frozen?, h1]
theorem one_two {x y : Int} : ∀ u ∈ [Value.int .i64 x, Value.int .i64 y], u.oneCell' = true := fun u hu => by
  cases hu with
  | head => rfl
  | tail _ h => cases h with
    | head => rfl
    | tail _ h => cases h
set_option maxHeartbeats 8000000 in
set_option maxRecDepth 100000 in
theorem refresolve_any (A : Option Addr) (ca : Nat) (q : Nat → Pl) (l : List Ob) (w : World) (hA : ObsIn w A q l) :
    Calls Try.prog 9 #[.slice A l.length ca] w (ResP 70 37 l w) := by
  obtain ⟨i0, hi, hz0, hz1, hz2⟩ := info37
  obtain ⟨i1, hj, hy0, hy1, hy2⟩ := info59
  have HA : Hid (ObsIn w A q l) := hA
  have hf := hA.few
  have CK := refchkl_any A ca q l w hA
  have CN : Hid (∀ wx, Below w.heap.size w wx → Calls Try.prog 26 #[.slice A l.length ca] wx (ErrP (namL l) wx)) := fun wx hx => refnames_any A ca q l wx (hA.keep hx)
  have C2 : Hid (∀ nm wx, Below w.heap.size w wx → Calls Try.prog 11 #[.slice A l.length ca, .string nm] wx (DefP (findF nm l) wx)) := fun nm wx hx => reffind_any A ca q l nm wx (hA.keep hx)
  clear hA
  cases h1 : chkL l with
  | some x =>
    have he : (x.1 != 0) = true := by simpa using chkL_errs l x h1
    have HX : Hid (resE l = some x) := by unfold Hid resE; rw [h1]
    rw [h1] at CK
    unfold ErrP at CK
    clear h1
    have e1 : t1 (some x) = x.1 := rfl
    have e2 : t2 (some x) = x.2.1 := rfl
    have e3 : t3 (some x) = x.2.2 := rfl
    rw [e1, e2, e3] at CK
    go_enter Try.func9, Try.ntmps9
    go_wp2_with fail
    refine CK.mono ?_
    rintro e w1 ⟨rfl, hb1⟩
    have HB1 : Hid (Below w.heap.size w w1) := hb1
    clear CK hb1
    go_wp2
    exact bodyPost_ret (v := .tuple #[.slice none 0 0, .int .i64 x.1, .int .i64 x.2.1, .int .i64 x.2.2]) (by simp [results, Try.results9, go_sem]) rfl (res_err HX.out HB1.out)
  | none =>
    rw [h1] at CK
    unfold ErrP at CK
    have e1 : t1 none = 0 := rfl
    have e2 : t2 none = 0 := rfl
    have e3 : t3 none = 0 := rfl
    rw [e1, e2, e3] at CK
    have H1 : Hid (resE l = namL l) := by unfold Hid resE; rw [h1]
    clear h1
    go_enter Try.func9, Try.ntmps9
    go_wp2_with fail
    refine CK.mono ?_
    rintro e w1 ⟨rfl, hb1⟩
    have HB1 : Hid (Below w.heap.size w w1) := hb1
    have CM := CN.out w1 hb1
    clear CK hb1 CN
    cases h2 : namL l with
    | some x =>
      have he : (x.1 != 0) = true := by simpa using namL_errs l x h2
      have HX : Hid (resE l = some x) := by rw [Hid, H1.out, h2]
      rw [h2] at CM
      unfold ErrP at CM
      clear h2
      have e1 : t1 (some x) = x.1 := rfl
      have e2 : t2 (some x) = x.2.1 := rfl
      have e3 : t3 (some x) = x.2.2 := rfl
      rw [e1, e2, e3] at CM
      go_wp2_with fail
      refine CM.mono ?_
      rintro e w2 ⟨rfl, hb2⟩
      have HB2 : Hid (Below w.heap.size w w2) := lb_trans HB1.out hb2
      clear CM hb2
      go_wp2
      exact bodyPost_ret (v := .tuple #[.slice none 0 0, .int .i64 x.1, .int .i64 x.2.1, .int .i64 x.2.2]) (by simp [results, Try.results9, go_sem]) rfl (res_err HX.out HB2.out)
    | none =>
      have HX : Hid (resE l = none) := by rw [Hid, H1.out, h2]
      rw [h2] at CM
      unfold ErrP at CM
      clear h2
      rw [e1, e2, e3] at CM
      go_wp2_with fail
      refine CM.mono ?_
      rintro e w2 ⟨rfl, hb2⟩
      have HB2 : Hid (Below w.heap.size w w2) := lb_trans HB1.out hb2
      clear CM hb2 HB1
      go_wp2
      go_loopw [10, 9] (fun i t wr => ∃ (k : Nat) (O : Option Addr) (c : Nat) (vs : List Value), i = .int .i64 k ∧ t = .slice O k c ∧ k ≤ l.length ∧ Hid (RowsD wr w.heap.size 70 37 t vs (rowsT l k)) ∧ Hid (Below w.heap.size w wr)) (fun i _ _ => l.length - (intOf i).toNat)
      case atStart => exact ⟨0, none, 0, [], rfl, rfl, Nat.zero_le _, RowsD.nil _ _ _ _, HB2⟩
      case round =>
        clear HB2
        obtain ⟨k, O, c, vs, rfl, rfl, hk, HR, HB⟩ := hrel
        obtain ⟨wk, hwk⟩ : ∃ x, x = wr := ⟨_, rfl⟩
        subst hwk
        by_cases hkl : k < l.length
        · have hkl' : (k : Int) < (l.length : Int) := by omega
          obtain ⟨a, ea, -⟩ := HA.out.cells k hkl
          subst ea
          go_wp2
          go_loopw [12, 11] (fun i t wr => ∃ (j : Nat) (O1 : Option Addr) (c1 : Nat), i = .int .i64 j ∧ t = .slice O1 j c1 ∧ j ≤ (ob l k).ss.length ∧ Hid (wr.ownsRow wk.heap.size 37 2 t j (dNews (rowT l k j))) ∧ Hid (Below wk.heap.size wk wr)) (fun i _ _ => (ob l k).ss.length - (intOf i).toNat)
          case atStart => exact ⟨0, none, 0, rfl, rfl, Nat.zero_le _, World.ownsRow_nil _ _ _ _, Below.refl _ _⟩
          case round =>
            obtain ⟨j, O1, c1, rfl, rfl, hjj, HQ, HB1⟩ := hrel
            have HBw : Hid (Below w.heap.size w wr) := lb_trans HB.out HB1.out
            obtain ⟨b, eb, x0, x1, x2, x3, x4, x5⟩ := HA.out.cells.six HBw.out k hkl
            obtain rfl := Option.some.inj eb
            have hss := (HA.out.each k hkl).hs
            clear eb x0 x1 x2 x3 x5
            by_cases hjl : j < (ob l k).ss.length
            · have hjl' : (j : Int) < ((ob l k).ss.length : Int) := by omega
              obtain ⟨a3, e3, s0, s1, s2⟩ := (HA.out.each k hkl).sy j hjl
              have t0 := lkeep HBw.out s0
              have t1 : wr.cell? ⟨(a3.add (j * 3)).block, (a3.add (j * 3)).off + 1, none⟩ = some (.int .i8 (sKind (ob l k).ss j)) := lkeep HBw.out s1
              have t2 : wr.cell? ⟨(a3.add (j * 3)).block, (a3.add (j * 3)).off + 2, none⟩ = some (.int .i64 (sAt (ob l k).ss j)) := lkeep HBw.out s2
              rw [e3] at x4
              clear s0 s1 s2 e3
              cases hd : (sKind (ob l k).ss j != 0)
              · have HST : Hid (standS l k j = ((k : Int), sAt (ob l k).ss j)) := by unfold Hid standS; rw [hd]; rfl
                have HBN : Hid (Below wk.heap.size wk (((wr.alloc (.cells #[.string (sName (ob l k).ss j), .int .i8 (sKind (ob l k).ss j), .int .i64 (sAt (ob l k).ss j)] 52)).alloc (.cells #[.int .i64 k, .int .i64 (sAt (ob l k).ss j)] 37)).alloc (.cells #[.int .i64 k, .int .i64 (sAt (ob l k).ss j)] 37))) := lb_alloc (lb_alloc (lb_alloc HB1.out _) _) _
                have HR2 : Hid ((((wr.alloc (.cells #[.string (sName (ob l k).ss j), .int .i8 (sKind (ob l k).ss j), .int .i64 (sAt (ob l k).ss j)] 52)).alloc (.cells #[.int .i64 k, .int .i64 (sAt (ob l k).ss j)] 37)).alloc (.cells #[.int .i64 k, .int .i64 (sAt (ob l k).ss j)] 37)).ownsRow wk.heap.size 37 2 (.slice O1 j c1) j (dNews (rowT l k j))) := own_keep HQ.out (lb_alloc (lb_alloc (lb_alloc (Below.refl _ _) _) _) _)
                have HNW : Hid ((((wr.alloc (.cells #[.string (sName (ob l k).ss j), .int .i8 (sKind (ob l k).ss j), .int .i64 (sAt (ob l k).ss j)] 52)).alloc (.cells #[.int .i64 k, .int .i64 (sAt (ob l k).ss j)] 37)).alloc (.cells #[.int .i64 k, .int .i64 (sAt (ob l k).ss j)] 37)).heap[wr.heap.size + 1 + 1]? = some (.cells #[.int .i64 k, .int .i64 (sAt (ob l k).ss j)] 37 (0, 0))) := by have := heap_alloc_new ((wr.alloc (.cells #[.string (sName (ob l k).ss j), .int .i8 (sKind (ob l k).ss j), .int .i64 (sAt (ob l k).ss j)] 52)).alloc (.cells #[.int .i64 k, .int .i64 (sAt (ob l k).ss j)] 37)) (.cells #[.int .i64 k, .int .i64 (sAt (ob l k).ss j)] 37); simpa [Hid] using this
                go_wp2_with (at_builtin; go_loud (refine wpList_append_own _ rfl (.tmp 75) (.tmp 77) 70 rfl wk.heap.size 37 i0 (.agg #[.int .i64 0, .int .i64 0]) 2 16 Try.underlying70 hi hz0 hz1 hz2 rfl (by decide) (.slice O1 j c1) j (dNews (rowT l k j)) rfl HR2.out ⟨wr.heap.size + 1 + 1, 0, none⟩ 1 1 [.int .i64 k, .int .i64 (sAt (ob l k).ss j)] rfl rfl (fun j u hu => World.news_of_block HNW.out j u hu) one_two (by unfold maxLen; omega) (by omega) HBN.out.size ?_; intro v3 w3 hown hgrow _; have HR3 : Hid (w3.ownsRow wk.heap.size 37 2 v3 (j + 1) (dNews (rowT l k (j + 1)))) := (by rw [rowT_succ, dNews_snoc, HST.out]; exact hown); have HB3 : Hid (Below wk.heap.size wk w3) := HBN.out.grown hgrow HBN.out.size (fun b hb => (HR2.out.lt b hb).1); clear hown hgrow))
                obtain ⟨A5, c5, e5, -⟩ := own_any HR3.out
                subst e5
                go_roundw
                case rel => exact ⟨j + 1, _, _, by go_num, rfl, by omega, HR3, HB3⟩
                case measure => simp [intOf]; omega
              · obtain ⟨x, hx⟩ : ∃ x, x = findF (sName (ob l k).ss j) l := ⟨_, rfl⟩
                have HST : Hid (standS l k j = ((dfI x : Int), dfA x)) := by unfold Hid standS; rw [hd, hx]; rfl
                have CF := C2.out (sName (ob l k).ss j) ((wr.alloc (.cells #[.string (sName (ob l k).ss j), .int .i8 (sKind (ob l k).ss j), .int .i64 (sAt (ob l k).ss j)] 52)).alloc (.cells #[.int .i64 k, .int .i64 (sAt (ob l k).ss j)] 37)) (lb_alloc (lb_alloc HBw.out _) _)
                rw [← hx] at CF
                unfold DefP at CF
                clear hx
                go_wp2_with fail
                refine CF.mono ?_
                rintro e w5 ⟨rfl, hb5⟩
                obtain ⟨z0, z1, y0, y1⟩ := two_keep (g := wr.heap.size + 1) (u := .int .i64 k) (v := .int .i64 (sAt (ob l k).ss j)) (by have := heap_alloc_new (wr.alloc (.cells #[.string (sName (ob l k).ss j), .int .i8 (sKind (ob l k).ss j), .int .i64 (sAt (ob l k).ss j)] 52)) (.cells #[.int .i64 k, .int .i64 (sAt (ob l k).ss j)] 37); simpa using this) hb5
                have HB5 : Hid (Below wr.heap.size wr w5) := lb_trans (lb_alloc (lb_alloc (Below.refl _ _) _) _) hb5
                have HB6 : Hid (Below wr.heap.size wr (((w5.setCell ⟨wr.heap.size + 1, 0, none⟩ (.int .i64 (dfI x))).setCell ⟨wr.heap.size + 1, 1, none⟩ (.int .i64 (dfA x))).alloc (.cells #[.int .i64 (dfI x), .int .i64 (dfA x)] 37))) := lb_alloc ((HB5.out.setCell (Nat.le_succ _) _).setCell (Nat.le_succ _) _) _
                have HBN : Hid (Below wk.heap.size wk (((w5.setCell ⟨wr.heap.size + 1, 0, none⟩ (.int .i64 (dfI x))).setCell ⟨wr.heap.size + 1, 1, none⟩ (.int .i64 (dfA x))).alloc (.cells #[.int .i64 (dfI x), .int .i64 (dfA x)] 37))) := lb_trans HB1.out HB6.out
                have HR2 : Hid ((((w5.setCell ⟨wr.heap.size + 1, 0, none⟩ (.int .i64 (dfI x))).setCell ⟨wr.heap.size + 1, 1, none⟩ (.int .i64 (dfA x))).alloc (.cells #[.int .i64 (dfI x), .int .i64 (dfA x)] 37)).ownsRow wk.heap.size 37 2 (.slice O1 j c1) j (dNews (rowT l k j))) := own_keep HQ.out HB6.out
                clear CF hb5 t0 t1 t2 x4
                have HNW : Hid ((((w5.setCell ⟨wr.heap.size + 1, 0, none⟩ (.int .i64 (dfI x))).setCell ⟨wr.heap.size + 1, 1, none⟩ (.int .i64 (dfA x))).alloc (.cells #[.int .i64 (dfI x), .int .i64 (dfA x)] 37)).heap[w5.heap.size]? = some (.cells #[.int .i64 (dfI x), .int .i64 (dfA x)] 37 (0, 0))) := by have := heap_alloc_new ((w5.setCell ⟨wr.heap.size + 1, 0, none⟩ (.int .i64 (dfI x))).setCell ⟨wr.heap.size + 1, 1, none⟩ (.int .i64 (dfA x))) (.cells #[.int .i64 (dfI x), .int .i64 (dfA x)] 37); simpa [Hid, World.setCell] using this
                go_wp2_with (at_builtin; go_loud (refine wpList_append_own _ rfl (.tmp 75) (.tmp 77) 70 rfl wk.heap.size 37 i0 (.agg #[.int .i64 0, .int .i64 0]) 2 16 Try.underlying70 hi hz0 hz1 hz2 rfl (by decide) (.slice O1 j c1) j (dNews (rowT l k j)) rfl HR2.out ⟨w5.heap.size, 0, none⟩ 1 1 [.int .i64 (dfI x), .int .i64 (dfA x)] rfl rfl (fun j u hu => World.news_of_block HNW.out j u hu) one_two (by unfold maxLen; omega) (by omega) HBN.out.size ?_; intro v3 w3 hown hgrow _; have HR3 : Hid (w3.ownsRow wk.heap.size 37 2 v3 (j + 1) (dNews (rowT l k (j + 1)))) := (by rw [rowT_succ, dNews_snoc, HST.out]; exact hown); have HB3 : Hid (Below wk.heap.size wk w3) := HBN.out.grown hgrow HBN.out.size (fun b hb => (HR2.out.lt b hb).1); clear hown hgrow))
                obtain ⟨A5, c5, e5, -⟩ := own_any HR3.out
                subst e5
                go_roundw
                case rel => exact ⟨j + 1, _, _, by go_num, rfl, by omega, HR3, HB3⟩
                case measure => simp [intOf]; omega
            · have hjl' : ¬ (j : Int) < ((ob l k).ss.length : Int) := by omega
              obtain rfl : j = (ob l k).ss.length := by omega
              have HRk : Hid (RowsD (wr.alloc (.cells #[.slice O1 (ob l k).ss.length c1] 70)) w.heap.size 70 37 (.slice O k c) vs (rowsT l k)) := HR.out.keep (lb_alloc HB1.out _)
              have HRb : Hid ((wr.alloc (.cells #[.slice O1 (ob l k).ss.length c1] 70)).ownsRow w.heap.size 70 1 (.slice O k c) k vs) := by have := HRk.out.bag; rwa [rowsT_len] at this
              have HRr : Hid ((wr.alloc (.cells #[.slice O1 (ob l k).ss.length c1] 70)).ownsRow w.heap.size 37 2 (.slice O1 (ob l k).ss.length c1) (rowT l k (ob l k).ss.length).length (dNews (rowT l k (ob l k).ss.length))) := by rw [rowT_len]; exact own_base (own_keep HQ.out (lb_alloc (Below.refl _ _) _)) HB.out.size
              have HBa : Hid (Below w.heap.size w (wr.alloc (.cells #[.slice O1 (ob l k).ss.length c1] 70))) := lb_alloc HBw.out _
              go_wp2_with (at_builtin; refine wpList_append_own _ rfl (.tmp 79) (.tmp 81) 30 rfl w.heap.size 70 i1 (.slice none 0 0) 1 24 Try.underlying30 hj hy0 hy1 hy2 rfl (by decide) (.slice O k c) k vs rfl HRb.out ⟨wr.heap.size, 0, none⟩ 1 1 [.slice O1 (ob l k).ss.length c1] rfl rfl (fun j u hu => World.news_of_block (heap_alloc_new _ _) j u hu) (fun u hu => by cases hu with | head => rfl | tail _ h => cases h) (by unfold maxLen; omega) (by omega) HBa.out.size ?_; intro v3 w3 hown hgrow _; have HR3 : Hid (RowsD w3 w.heap.size 70 37 v3 (vs ++ [.slice O1 (ob l k).ss.length c1]) (rowsT l (k + 1))) := (by rw [rowsT_succ]; exact HRk.out.add (by decide) HRr.out (by rw [rowsT_len]; exact hown) hgrow); have HB3 : Hid (Below w.heap.size w w3) := HBa.out.grown hgrow HBa.out.size (fun b hb => (HRb.out.lt b hb).1); have HO3 : Hid (w3.ownsRow w.heap.size 70 1 v3 (k + 1) (vs ++ [.slice O1 (ob l k).ss.length c1])) := hown; clear hown hgrow)
              obtain ⟨A5, c5, e5, -⟩ := own_any HO3.out
              subst e5
              go_roundw
              case rel => exact ⟨k + 1, _, _, _, by go_num, rfl, by omega, HR3, HB3⟩
              case measure => simp [intOf]; omega
        · have hkl' : ¬ (k : Int) < (l.length : Int) := by omega
          obtain rfl : k = l.length := by omega
          have HL : Hid (resL l = rowsT l l.length) := by unfold Hid resL; rw [HX.out]
          have HV : Hid (ResP 70 37 l w (.returned (.tuple #[.slice O l.length c, .int .i64 0, .int .i64 0, .int .i64 0])) wk) := by
            refine ⟨O, c, vs, ?_, ?_, HB.out⟩
            · rw [HL.out, rowsT_len, HX.out]; rfl
            · rw [HL.out, rowsT_len]; exact HR.out
          go_wp2
          exact bodyPost_ret (v := .tuple #[.slice O l.length c, .int .i64 0, .int .i64 0, .int .i64 0]) (by simp [results, Try.results9, go_sem]) rfl HV.out


end Go.Proofs.Ytiihfkjgdhfmiaa

namespace Go.Proofs.Ytiihfkjgdhfmiaa
open Go.RowKit

/-- Blocks of places, between two numbers, may have been written over. -/
structure Mk (TD : TypeId) (s1 s2 : Nat) (w0 w : World) : Prop where
  os : w.os = w0.os
  tape : w.tape = w0.tape
  output : w.output = w0.output
  size : w.heap.size = w0.heap.size
  block : ∀ b : Nat, ¬ (s1 ≤ b ∧ b < s2) → w.heap[b]? = w0.heap[b]?
  typ : ∀ (b : Nat) (cur0 : Array Value) (t : TypeId), w0.heap[b]? = some (.cells cur0 t (0, 0)) → ∃ cur : Array Value, w.heap[b]? = some (.cells cur t (0, 0)) ∧ cur.size = cur0.size ∧ (t ≠ TD → cur = cur0)
theorem Mk.refl (TD : TypeId) (s1 s2 : Nat) (w : World) : Mk TD s1 s2 w w := ⟨rfl, rfl, rfl, rfl, fun _ _ => rfl, fun _ cur _ h => ⟨cur, h, rfl, fun _ => rfl⟩⟩
theorem set_rowM {w : World} {g k : Nat} {cur : Array Value} {t : TypeId} (h : w.heap[g]? = some (.cells cur t (0, 0))) (u : Value) : (w.setCell ⟨g, k, none⟩ u).heap[g]? = some (.cells (cur.setIfInBounds k u) t (0, 0)) := by
  simp [World.setCell, Array.getElem?_modify, h]
theorem Mk.set {TD : TypeId} {s1 s2 : Nat} {w0 w : World} (h : Mk TD s1 s2 w0 w) {g p : Nat} {cur : Array Value} (hg : w.heap[g]? = some (.cells cur TD (0, 0))) (h1 : s1 ≤ g) (h2 : g < s2) (u : Value) : Mk TD s1 s2 w0 (w.setCell ⟨g, p, none⟩ u) := by
  have hoff : ∀ b : Nat, b ≠ g → (w.setCell ⟨g, p, none⟩ u).heap[b]? = w.heap[b]? := fun b hb => Below.heap_setCell _ _ _ _ (fun e => hb (by first | exact e | exact e.symm))
  refine ⟨h.os, h.tape, h.output, by rw [← h.size]; simp [World.setCell], fun b hb => ?_, fun b cur0 t h0 => ?_⟩
  · rw [hoff b (fun e => hb (by rw [e]; exact ⟨h1, h2⟩))]
    exact h.block b hb
  · obtain ⟨c, hc, hs, ht⟩ := h.typ b cur0 t h0
    by_cases he : b = g
    · subst he
      rw [hg] at hc
      simp only [Option.some.injEq, Obj.cells.injEq] at hc
      obtain ⟨rfl, rfl, _⟩ := hc
      exact ⟨_, set_rowM hg u, by rw [Array.size_setIfInBounds]; exact hs, fun hn => absurd rfl hn⟩
    · exact ⟨c, by rw [hoff b he]; exact hc, hs, ht⟩
theorem Mk.below {TD : TypeId} {s1 s2 n : Nat} {W w0 w : World} (h : Mk TD s1 s2 w0 w) (hb : Below n W w0) (hn : n ≤ s1) : Below n W w :=
  ⟨by rw [h.os]; exact hb.os, by rw [h.tape]; exact hb.tape, by rw [h.output]; exact hb.output, by rw [h.size]; exact hb.size, fun k hk => by rw [h.block k (by omega)]; exact hb.block k hk⟩
theorem Mk.own {TD : TypeId} {s1 s2 base n size : Nat} {e : TypeId} {v : Value} {xs : List Value} {w0 w : World} (h : Mk TD s1 s2 w0 w) (ho : w0.ownsRow base e size v n xs) (hs : s2 ≤ base) : w.ownsRow base e size v n xs := by
  refine ⟨ho.1, ?_⟩
  rcases ho.2 with hn | ⟨g, cap, cur, hv, hb, hg, rest⟩
  · exact .inl hn
  · exact .inr ⟨g, cap, cur, hv, hb, by rw [h.block g (by omega)]; exact hg, rest⟩
theorem Mk.rows {TD : TypeId} {s1 s2 base : Nat} {TS TE : TypeId} {V : Value} {vs : List Value} {rows : List (List Rel)} {w0 w : World} (h : Mk TD s1 s2 w0 w) (ho : RowsD w0 base TS TE V vs rows) (hs : s2 ≤ base) : RowsD w base TS TE V vs rows := ⟨h.own ho.bag hs, fun i hi => h.own (ho.row i hi) hs⟩
theorem RowsD.all {w : World} {base c : Nat} {TS TD : TypeId} {A : Option Addr} {n : Nat} {vs : List Value} {rows : List (List Rel)} (h : RowsD w base TS TD (.slice A n c) vs rows) : RowsAt w A rows := fun i hi => h.at i hi
/-- What a loop that writes over an answer meets. -/
theorem Mk.bag {TS TD : TypeId} {s1 s2 base c n : Nat} {A : Option Addr} {vs : List Value} {rows : List (List Rel)} {w0 w : World} (h : Mk TD s1 s2 w0 w) (ho : RowsD w0 base TS TD (.slice A n c) vs rows) (hT : TS ≠ TD) (i : Nat) (hi : i < rows.length) : ∃ g, A = some ⟨g, 0, none⟩ ∧ w.cell? ⟨g, i, none⟩ = some (vn vs i) := by
  obtain ⟨g, e, _, _, hc, cur, hg⟩ := ho.blk i hi
  obtain ⟨c2, h2, _, h3⟩ := h.typ g cur TS hg
  refine ⟨g, e, ?_⟩
  rw [h3 hT] at h2
  rw [← hc]
  simp [World.cell?, h2, hg]
theorem Mk.row {TS TD : TypeId} {s1 s2 : Nat} {V : Value} {vs : List Value} {rows : List (List Rel)} {w0 w w3 : World} (h : Mk TD s1 s2 w0 w) (ho : RowsD w3 s1 TS TD V vs rows) (hs : w3.heap.size = s2) (hk : Below w3.heap.size w3 w0) (i : Nat) (hi : i < rows.length) (hp : 0 < (rowN rows i).length) : ∃ g c cur, vn vs i = .slice (some ⟨g, 0, none⟩) (rowN rows i).length c ∧ s1 ≤ g ∧ g < s2 ∧ w.heap[g]? = some (.cells cur TD (0, 0)) ∧ (rowN rows i).length * 2 ≤ cur.size := by
  obtain ⟨g, c, cur, e, hb, hg, hz, _⟩ := drow_blk (ho.row i hi) hp
  have hlt : g < w3.heap.size := (Array.getElem?_eq_some_iff.1 hg).1
  obtain ⟨c2, h2, h3, _⟩ := h.typ g cur TD (by rw [hk.block g hlt]; exact hg)
  exact ⟨g, c, c2, e, hb, by omega, h2, by omega⟩
theorem cell_at {w : World} {g p : Nat} {cur : Array Value} {t : TypeId} (h : w.heap[g]? = some (.cells cur t (0, 0))) (hp : p < cur.size) : ∃ u, w.cell? ⟨g, p, none⟩ = some u ∧ w.frozen? ⟨g, p, none⟩ = false := by
  exact ⟨cur[p], by simp [World.cell?, h, hp], by simp [World.frozen?, h]⟩
/-- Few and short: an answer. -/
theorem few_res {w : World} {A : Option Addr} {q : Nat → Pl} {l : List Ob} (h : ObsIn w A q l) : FewR (resL l) := by
  unfold resL
  split
  · exact ⟨by simp, fun i hi => by simp at hi⟩
  · refine ⟨by rw [rowsT_len]; exact h.few, fun i hi => ?_⟩
    rw [rowsT_len] at hi
    rw [rowsT_at l hi, rowT_len]
    exact (h.each i hi).hs


end Go.Proofs.Ytiihfkjgdhfmiaa

namespace Go.Proofs.Ytiihfkjgdhfmiaa
open Go.RowKit

theorem rowT_get {l : List Ob} {k n j : Nat} (h : j < n) : rAt (rowT l k n) j = (standS l k j).1 ∧ rSym (rowT l k n) j = (standS l k j).2 := by simp [rAt, rSym, rowT, h]
/-- An answer's cells. -/
theorem d_at {w : World} {A : Option Addr} {l : List Ob} {n k : Nat} (h : RowsAt w A (rowsT l n)) (hk : k < n) : ∃ (a : Addr) (R : Option Addr) (c : Nat), A = some a ∧ w.cell? (a.add k) = some (.slice R (ob l k).ss.length c) ∧ ∀ j, j < (ob l k).ss.length → ∃ r : Addr, R = some r ∧ w.cell? (r.add (j * 2)) = some (.int .i64 (standS l k j).1) ∧ w.cell? ⟨(r.add (j * 2)).block, (r.add (j * 2)).off + 1, none⟩ = some (.int .i64 (standS l k j).2) := by
  obtain ⟨a, R, c, e, hc, hr⟩ := h k (by rw [rowsT_len]; exact hk)
  rw [rowsT_at l hk] at hc hr
  rw [rowT_len] at hc
  refine ⟨a, R, c, e, hc, fun j hj => ?_⟩
  obtain ⟨r, er, x, y⟩ := hr j (by rw [rowT_len]; exact hj)
  have := rowT_get (l := l) (k := k) hj
  rw [this.1] at x
  rw [this.2] at y
  exact ⟨r, er, x, y⟩
theorem lfroz {w w1 : World} {a : Addr} {v : Value} (hb : Below w.heap.size w w1) (hc : w.cell? a = some v) (h : w.frozen? a = false) : w1.frozen? a = false := by
  have hl : a.block < w.heap.size := by
    by_cases hh : a.block < w.heap.size
    · exact hh
    · simp [World.cell?, Array.getElem?_eq_none (by omega : w.heap.size ≤ a.block)] at hc
  rw [World.frozen?_of_block (hb.block _ hl)]; exact h
/-- Two cells that were laid, kept. -/
structure Two2 (w : World) (p : Nat) (u v : Value) : Prop where
  c0 : w.cell? ⟨p, 0, none⟩ = some u
  c1 : w.cell? ⟨p, 1, none⟩ = some v
  f0 : w.frozen? ⟨p, 0, none⟩ = false
  f1 : w.frozen? ⟨p, 1, none⟩ = false
theorem Two2.keep {w w1 : World} {p : Nat} {u v : Value} (h : Two2 w p u v) (hb : Below w.heap.size w w1) : Two2 w1 p u v := ⟨lkeep hb h.c0, lkeep hb h.c1, lfroz hb h.c0 h.f0, lfroz hb h.c1 h.f1⟩
theorem have_two {G : Prop} {w w1 : World} (p : Nat) (hb : Below w.heap.size w w1) (h : Two2 w p (.int .i64 0) (.int .i64 0)) (k : w1.cell? ⟨p, 0, none⟩ = some (.int .i64 0) → w1.cell? ⟨p, 1, none⟩ = some (.int .i64 0) → w1.frozen? ⟨p, 0, none⟩ = false → w1.frozen? ⟨p, 1, none⟩ = false → G) : G := k (h.keep hb).c0 (h.keep hb).c1 (h.keep hb).f0 (h.keep hb).f1
theorem more_own {w : World} {base g : Nat} {nm : ByteArray} (h : w.heap[g]? = some (.cells #[.string nm, .int .i8 3, .int .i64 0] 52 (0, 0))) (hb : base ≤ g) : OwnO w base ⟨none, none, some ⟨g, 0, none⟩, none, 0, 0, 1, 0⟩ (moreO nm) := by
  refine ⟨World.ownsRow_nil _ _ _ _, World.ownsRow_nil _ _ _ _, ⟨rfl, .inr ⟨g, 1, _, rfl, hb, h, Nat.le_refl _, (by unfold maxLen; omega : (1 : Nat) ≤ maxLen), rfl, ?_⟩⟩, World.ownsRow_nil _ _ _ _⟩
  show List.take 3 [.string nm, .int .i8 3, .int .i64 0] = sNews [(nm, 3, 0)]
  simp [sNews, List.range_succ, wSym, sName, sKind, sAt]
theorem copy_in {l : List Ob} {w w0 w' : World} {A : Option Addr} {q0 : Nat → Pl} {c : Nat} {A0 : Option Addr} {q : Nat → Pl} (h0 : ObsIn w0 A0 q0 l) (ho : w'.ownsRow w.heap.size 49 6 (.slice A l.length c) l.length (oN l q l.length)) (hw : ∀ i, i < l.length → OwnO w' w.heap.size (q i) (ob l i)) : ObsIn w' A q l := ⟨oN_at ho, fun i hi => (hw i hi).inn (h0.each i hi), h0.few⟩
theorem wrapI64 {n : Int} (h0 : -9223372036854775808 ≤ n) (h1 : n ≤ 9223372036854775807) : IntKind.i64.wrap n = n := by
  simp [IntKind.wrap, IntKind.bits, IntKind.signed]
  omega
theorem moreN_list : moreN.toList = ([111, 110, 101, 46, 109, 111, 114, 101, 46, 111, 98, 106, 101, 99, 116, 46, 104, 101, 114, 101, 95] : List UInt8) := by rw [ByteArray.toList_eq]; rfl
theorem oN_ob {l l2 : List Ob} {q : Nat → Pl} : ∀ {k : Nat}, (∀ i, i < k → ob l i = ob l2 i) → oN l q k = oN l2 q k
  | 0, _ => rfl
  | k + 1, h => by
    have := oN_ob (q := q) (k := k) (fun i hi => h i (by omega))
    unfold oN at this ⊢
    rw [marks_succ, marks_succ, this, h k (by omega)]
theorem oN_more (l : List Ob) (o : Ob) (q : Nat → Pl) (p : Pl) : oN (l ++ [o]) (updP q l.length p) (l.length + 1) = oN l q l.length ++ obc o p := by
  rw [oN_succ, ob_new, oN_ob (l := l ++ [o]) (l2 := l) (fun i hi => ob_old hi)]
theorem more_in {w : World} {base : Nat} {p : Pl} {nm : ByteArray} (h : OwnO w base p (moreO nm)) (hs : nm.size ≤ 140737488355328) : ObIn w p (moreO nm) := by
  obtain ⟨_, c, e4, h4⟩ := own_any h.r4
  refine ⟨nrow_ints h.r1, nrow_ints h.r2, nrow_syms h.r3, nrow_rels h.r4, fun i hi => absurd hi (Nat.not_lt_zero _), fun i hi => absurd hi (Nat.not_lt_zero _), ⟨by simp [moreO], by simp [moreO]⟩, Nat.zero_le _, Nat.zero_le _, by simp [moreO], Nat.zero_le _, fun i => ?_, ?_⟩
  · cases i with
    | zero => exact hs
    | succ i =>
      have : sName (moreO nm).ss (i + 1) = ⟨#[]⟩ := rfl
      rw [this]
      exact Nat.zero_le _
  · cases e4
    exact h4
theorem more_obs {l : List Ob} {w w0 : World} {base c : Nat} {A A0 : Option Addr} {q q0 : Nat → Pl} {p : Pl} {nm : ByteArray} (h0 : ObsIn w0 A0 q0 l) (hl : l.length < 32) (hs : nm.size ≤ 140737488355328) (ho : w.ownsRow base 49 6 (.slice A (l.length + 1) c) (l.length + 1) (oN l q l.length ++ obc (moreO nm) p)) (hw : ∀ i, i < l.length → OwnO w base (q i) (ob l i)) (hp : OwnO w base p (moreO nm)) : ObsIn w A (updP q l.length p) (l ++ [moreO nm]) := by
  have hlen : (l ++ [moreO nm]).length = l.length + 1 := by simp
  refine ⟨?_, fun i hi => ?_, by omega⟩
  · rw [← oN_more, ← hlen] at ho
    exact oN_at ho
  · by_cases he : i = l.length
    · subst he
      rw [ob_new]
      unfold updP
      rw [if_pos rfl]
      exact more_in hp hs
    · rw [ob_old (by omega)]
      unfold updP
      rw [if_neg he]
      exact (hw i (by omega)).inn (h0.each i (by omega))
/-- The answer for one more object. -/
theorem c_old {w : World} {A : Option Addr} {l : List Ob} {n2 : ByteArray} {k : Nat} (h : RowsAt w A (rowsT (l ++ [moreO n2]) (l.length + 1))) (hk : k < l.length) : ∃ (a : Addr) (R : Option Addr) (c : Nat), A = some a ∧ w.cell? (a.add k) = some (.slice R (ob l k).ss.length c) ∧ ∀ j, j < (ob l k).ss.length → ∃ r : Addr, R = some r ∧ w.cell? (r.add (j * 2)) = some (.int .i64 (standS l k j).1) ∧ w.cell? ⟨(r.add (j * 2)).block, (r.add (j * 2)).off + 1, none⟩ = some (.int .i64 (standS l k j).2) := by
  obtain ⟨a, R, c, e, hc, hr⟩ := d_at h (show k < l.length + 1 by omega)
  rw [ob_old hk] at hc hr
  refine ⟨a, R, c, e, hc, fun j hj => ?_⟩
  have := hr j hj
  rwa [stand_old hk] at this
theorem c_new {w : World} {A : Option Addr} {l : List Ob} (hR : Res l) {m k : Nat} (hm : m < l.length) (hk : k < (ob l m).ss.length) (h1 : sKind (ob l m).ss k = 1) (h : RowsAt w A (rowsT (l ++ [moreO (sName (ob l m).ss k)]) (l.length + 1))) : ∃ (a r : Addr) (c : Nat), A = some a ∧ w.cell? (a.add l.length) = some (.slice (some r) 1 c) ∧ w.cell? r = some (.int .i64 (standS l m k).1) ∧ w.cell? ⟨r.block, r.off + 1, none⟩ = some (.int .i64 (standS l m k).2) := by
  obtain ⟨a, R, c, e, hc, hr⟩ := d_at h (show l.length < l.length + 1 by omega)
  rw [ob_new] at hc hr
  obtain ⟨r, er, x, y⟩ := hr 0 (by simp [moreO])
  have hs : standS (l ++ [moreO (sName (ob l m).ss k)]) l.length 0 = standS l m k := by
    have := rowT_new hR hm hk h1
    have e2 : rowT (l ++ [moreO (sName (ob l m).ss k)]) l.length 1 = [standS (l ++ [moreO (sName (ob l m).ss k)]) l.length 0] := rfl
    rw [e2] at this
    exact (List.cons.inj this).1
  have e0 : r.add (0 * 2) = r := by simp [Addr.add]
  rw [hs] at x y
  rw [e0] at x y
  rw [er] at hc
  exact ⟨a, r, c, e, hc, x, y⟩

end Go.Proofs.Ytiihfkjgdhfmiaa
