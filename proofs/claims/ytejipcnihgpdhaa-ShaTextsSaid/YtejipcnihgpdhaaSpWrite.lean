/-
  (*sha.Hash).Write.
-/
import Derived.Test.YtejipcnihgpdhaaSpSrc
import Derived.StillTailTactics
import Derived.Test.YtejipcnihgpdhaaGrow
namespace Go.Proofs.Ytejipcnihgpdhaa
open Go.RowKit
set_option linter.unusedVariables false

set_option maxHeartbeats 1000000 in
set_option maxRecDepth 100000 in
theorem write_any (g : Nat) (l m : List Nat) (v : Value) (w : World) (hh : HashAt w g l) (hs : Sv w g v m) (hn : l.length + m.length ≤ 4611686018427387904) :
    Calls Try.prog 23 #[.pointer (some ⟨g, 0, none⟩), v] w (fun e w' => e = .returned (.int .i64 0) ∧ HashAt w' g (l ++ m) ∧ w.grownBy w' (some g)) := by
  have hm0 : w.cell? ⟨g, 0, none⟩ = some (.bool true) := by
    obtain ⟨s, r, _, hr⟩ := hh
    rw [hr.cell]; exact hc_made
  have HH := Lib.hid hh
  have HS := Lib.hid hs
  have HN := Lib.hid hn
  clear hh hs hn
  go_enter Try.func23, Try.ntmps23
  go_wp2
  clear hm0
  go_loopw [1] (fun v wr => ∃ j : Nat, j ≤ m.length ∧ Hid (Sv wr g v (m.drop j)) ∧ Hid (HashAt wr g (l ++ m.take j)) ∧ Hid (w.grownBy wr (some g))) (fun v _ => Sh.lenV v)
  case atStart => exact ⟨0, by omega, by simpa [Hid] using HS.out, by simpa [Hid] using HH.out, but_refl w g⟩
  case round =>
    clear HH HS
    obtain ⟨j, hj, HS, HH, HG⟩ := hrel
    obtain ⟨M, hM⟩ : ∃ M, m.drop j = M := ⟨_, rfl⟩
    have hMl : M.length = m.length - j := by rw [← hM, List.length_drop]
    obtain ⟨L, hL⟩ : ∃ L, l ++ m.take j = L := ⟨_, rfl⟩
    have hLl : L.length = l.length + j := by rw [← hL, List.length_append, List.length_take]; omega
    rw [hM] at HS
    rw [hL] at HH
    have HSS := Lib.hid HS.out
    obtain ⟨A, c, rfl, _, _, hM8, _, hsrc⟩ := HS.out
    by_cases h0 : 0 < M.length
    · obtain ⟨b, off, rfl, hbg, hbs, hcell⟩ := hsrc h0
      obtain ⟨s, r, hs, hr⟩ := HH.out
      obtain ⟨k, hk⟩ : ∃ k, L.length % 64 = k := ⟨_, rfl⟩
      have hk64 : k < 64 := by omega
      obtain ⟨t, ht⟩ : ∃ t, Nat.min M.length (64 - k) = t := ⟨_, rfl⟩
      have ht1 : t ≤ M.length := by rw [← ht]; exact Nat.min_le_left _ _
      have ht2 : k + t ≤ 64 := by have : Nat.min M.length (64 - k) ≤ 64 - k := Nat.min_le_right _ _; omega
      have ht3 : t = M.length ∨ k + t = 64 := by
        have : Nat.min M.length (64 - k) = M.length ∨ Nat.min M.length (64 - k) = 64 - k := by
          rcases Nat.le_total M.length (64 - k) with h | h
          · exact .inl (Nat.min_eq_left h)
          · exact .inr (Nat.min_eq_right h)
        omega
      have hxl : (M.take t).length = t := by rw [List.length_take]; omega
      have hcp := copy_rest (w := wr.drew) (b := b) (off := off) (ln := M.length) (c := c) (k := k) (x := M.take t) hr.drew hs.len hk64 (by rw [hxl, ht]) (fun i y hi => hcell i y (by
        rw [List.getElem?_take] at hi
        split at hi
        · exact hi
        · cases hi))
      rw [hxl] at hcp
      obtain ⟨r', hr'⟩ : ∃ r', Sh.fill r k (M.take t) = r' := ⟨_, rfl⟩
      have hr'l : r'.length = 64 := by rw [← hr']; exact Sh.fill_len hs.len (by rw [hxl]; omega)
      have hx8 : ∀ y ∈ M.take t, y < 256 := fun y hy => hM8 y (List.mem_of_mem_take hy)
      have hr'8 : ∀ y ∈ r', y < 256 := by rw [← hr']; exact Sh.fill_lt hs.lt hx8
      rw [hr'] at hcp
      obtain ⟨v', hcut, hsv⟩ := Sv.cut HSS.out (k := t) ht1
      have hsl := rest_from g k hk64
      have c73 : wr.drew.cell? ⟨g, 73, none⟩ = some (.int .u64 (L.length : Nat)) := (hr.drew.cell _).trans (hc_count hs.len)
      have hRn : Rw (wr.drew.setRow g (hc true s r' L.length)) g 50 (hc true s r' L.length) := hr.drew.row _
      obtain ⟨w2, hw2⟩ : ∃ w2, wr.drew.setRow g (hc true s r' L.length) = w2 := ⟨_, rfl⟩
      have hg2 : wr.grownBy w2 (some g) := by rw [← hw2]; exact but_trans (grown_drew wr g) (grown_setRow _ g _)
      rw [hw2] at hcp hRn
      have d73 : w2.cell? ⟨g, 73, none⟩ = some (.int .u64 (L.length : Nat)) := (hRn.cell _).trans (hc_count hr'l)
      have f73 : w2.frozen? ⟨g, 73, none⟩ = false := hRn.frozen _
      have hR3 : Rw (w2.setCell ⟨g, 73, none⟩ (.int .u64 (L.length + t : Nat))) g 50 (hc true s r' (L.length + t)) := by
        have := hRn.set 73 (.int .u64 (L.length + t : Nat))
        rw [hc_setCount hr'l] at this
        exact this
      have i0 : (0 : Int) < (M.length : Int) := by omega
      have i1 : (L.length : Int).tmod 64 = (k : Nat) := by rw [Int.tmod_eq_emod_of_nonneg (by omega)]; omega
      have i2 : IntKind.u64.wrap (t : Int) = (t : Int) := by rw [IntKind.wrap_u64]; have := HN.out; omega
      have i3 : IntKind.u64.wrap ((L.length : Int) + (t : Int)) = (L.length + t : Nat) := by rw [IntKind.wrap_u64]; have := HN.out; omega
      have HML := Lib.hid hMl
      have HLL := Lib.hid hLl
      have HR3 := Lib.hid hR3
      have HRS := Lib.hid hs
      have HSV := Lib.hid hsv
      have HG2 := Lib.hid hg2
      have HF : Hid (Sh.fill r k (M.take t) = r') := hr'
      have HK : Hid (L.length % 64 = k) := hk
      have HX := Lib.hid hxl
      have HX8 := Lib.hid hx8
      have HR8 := Lib.hid hr'8
      have HHM := Lib.hid hM
      have HHL := Lib.hid hL
      clear hMl hLl hR3 hs hsv hg2 hr' hk hxl hx8 hr'8 hM hL hRn hw2 hM8 hsrc hcell HS HH HSS hr ht
      have e5 : ((L.length + t : Nat) : Int) = (L.length : Int) + (t : Int) := by omega
      have HR4 : Hid (Rw (w2.setCell ⟨g, 73, none⟩ (.int .u64 ((L.length : Int) + (t : Int)))) g 50 (hc true s r' (L.length + t))) := by
        have := HR3.out
        rw [e5] at this
        exact this
      have HG3 : Hid (wr.grownBy (w2.setCell ⟨g, 73, none⟩ (.int .u64 ((L.length : Int) + (t : Int)))) (some g)) := but_trans HG2.out (grown_setCell _ g 73 _)
      have HJ : Hid (l ++ m.take (j + t) = L ++ M.take t ∧ m.drop (j + t) = M.drop t ∧ j + t ≤ m.length ∧ (L ++ M.take t).length = L.length + t) := by
        have := HML.out
        refine ⟨?_, ?_, by omega, by rw [List.length_append, HX.out]⟩
        · rw [← HHL.out, ← HHM.out, List.append_assoc, ← List.take_add]
        · rw [← HHM.out, List.drop_drop]
      have HV : Hid (Sh.lenV v' < M.length) := by
        obtain ⟨A', c', rfl, _⟩ := HSV.out
        show (M.drop t).length < M.length
        rw [List.length_drop]; omega
      clear HR3 HG2 e5
      by_cases hf : k + t = 64
      · have hq : (((L.length : Int) + (t : Int)) % 64 == 0) = true := by rw [beq_iff_eq]; have := HK.out; omega
        have HSF : Hid (Sh.HS (Sh.press s r') r' (L ++ M.take t)) := by
          have h1 := Sh.HS.full HRS.out HX8.out (by rw [HK.out, HX.out]; exact hf)
          rw [HK.out, HF.out] at h1
          exact h1
        go_wp2
        go_still_tail 10, (by kernel_rfl)
        change wpList _ _ _ _ _ wr.drew
        go_wp2
        generalize hw3 : w2.setCell _ _ = w3
        rw [hw3] at HR4 HG3
        clear hw3 hcp d73 f73 c73 hcut hsl hq
        have HP : Hid (∀ w, Calls Try.prog 10 #[.agg (stv s), .agg (bvs r')] w (IsSt (Sh.press s r') w)) := fun w => press_any s r' hr'l HR8.out w
        have h1s : (Try.prog.info? 23).map (·.size) = some (stv s).size := size23
        have h2s : (Try.prog.info? 24).map (·.size) = some (bvs r').size := by rw [bvs_size, hr'l]; exact size24
        obtain ⟨S', hS'⟩ : ∃ S', Sh.press s r' = S' := ⟨_, rfl⟩
        rw [hS'] at HP HSF
        clear hS' i0 i1 i2 i3
        have HRS : Hid (∀ w, Rw w g 50 (hc true s r' (L.length + t)) → w.rangeAt g 1 (stv s).toList ∧ w.rangeAt g 9 (bvs r').toList) := fun w h => ⟨h.state, h.rest⟩
        obtain ⟨c1, hc1⟩ : ∃ c, stv s = c := ⟨_, rfl⟩
        obtain ⟨c2, hc2⟩ : ∃ c, bvs r' = c := ⟨_, rfl⟩
        rw [hc1, hc2] at HP HRS
        rw [hc1] at h1s
        rw [hc2] at h2s
        clear hc1 hc2
        refine wp_region_grow 12 (by kernel_rfl) (by kernel_rfl) (fun w' => Rw w' g 50 (hc true s r' (L.length + t)) ∧ wr.grownBy w' (some g)) ⟨HR4.out.drew, but_trans HG3.out (grown_drew w3 g)⟩ ?_
        simp only [List.take_succ_cons, List.take_zero, List.drop_succ_cons, List.drop_zero]
        iterate 4 (refine wpGrow_pure (v := ?_) rfl ?_ ?_; rotate_left; focus (intro w' _; go_simp; first | done | with_reducible rfl)
                   go_simp)
        refine wpGrow_load_mid rfl _ _ rfl g 1 rfl c1 _ (fun w' h => (HRS.out w' h.1).1) Try.underlying23 rfl h1s ?_
        go_simp
        iterate 3 (refine wpGrow_pure (v := ?_) rfl ?_ ?_; rotate_left; focus (intro w' _; go_simp; first | done | with_reducible rfl)
                   go_simp)
        refine wpGrow_load_mid rfl _ _ rfl g 9 rfl c2 _ (fun w' h => (HRS.out w' h.1).2) Try.underlying24 rfl h2s ?_
        go_simp
        refine wpGrow_call (v := .agg (stv S')) (f := 10) (args := #[.agg c1, .agg c2]) rfl (fun w' => by go_simp) (fun w' h => (HP.out w').mono ?_) ?_
        · rintro e w5 ⟨rfl, hb5⟩
          exact ⟨rfl, h.1.below hb5 h.1.lt, but_trans h.2 (grown_below g hb5)⟩
        go_simp
        iterate 2 (refine wpGrow_pure (v := ?_) rfl ?_ ?_; rotate_left; focus (intro w' _; go_simp; first | done | with_reducible rfl)
                   go_simp)
        refine wpGrow_nil ?_
        intro w5 hr5 hg5
        have h83 : (stv S').size = 8 := rfl
        have HT5 : Hid (w5.there g 1 (stv S').size) := hr5.there (by rw [hc_size hr'l, h83]; omega)
        have HR5 := Lib.hid (hr5.newState (s' := S'))
        have HG5 : Hid (w.grownBy (w5.setCells g 1 (stv S').toList) (some g)) := but_trans HG.out (but_trans hg5 (grown_setCells g _ 1 w5))
        have HV5 : Hid (Sv (w5.setCells g 1 (stv S').toList) g v' (M.drop t)) := HSV.out.kept (but_trans hg5 (grown_setCells g _ 1 w5))
        clear hr5 hg5
        go_wp2_with (refine wpList_store_mid rfl _ _ _ rfl g 1 (stv S') rfl rfl HT5.out size23 (stv_one S') ?_)
        obtain ⟨j1, j2, j3, j4⟩ := HJ.out
        dsimp only [Act.put]
        go_roundw
        case rel =>
          refine ⟨j + t, j3, ?_, ?_, HG5.out⟩
          · rw [j2]; exact HV5.out
          · rw [j1]; exact ⟨S', r', HSF.out, by rw [j4]; exact HR5.out⟩
        case measure => exact HV.out
      · have hq : (((L.length : Int) + (t : Int)) % 64 == 0) = false := by rw [beq_eq_false_iff_ne]; have := HK.out; omega
        have HSF : Hid (Sh.HS s r' (L ++ M.take t)) := by
          have h1 := Sh.HS.more HRS.out HX8.out (by rw [HK.out, HX.out]; omega)
          rw [HK.out, HF.out] at h1
          exact h1
        go_wp2
        go_still_tail 10, (by kernel_rfl)
        change wpList _ _ _ _ _ wr.drew
        go_wp2
        obtain ⟨j1, j2, j3, j4⟩ := HJ.out
        refine ⟨⟨j + t, j3, ?_, ?_, ?_⟩, HV.out⟩
        · rw [j2]; exact HSV.out.kept HG3.out
        · rw [j1]; exact ⟨s, r', HSF.out, by rw [j4]; exact HR4.out⟩
        · exact but_trans HG.out HG3.out
    · obtain rfl : M = [] := List.eq_nil_of_length_eq_zero (by omega)
      have hjm : j = m.length := by simp at hMl; omega
      subst hjm
      have HE : Hid (HashAt wr g (l ++ m)) := by
        rw [List.take_of_length_le (Nat.le_refl _)] at hL
        rw [hL]; exact HH.out
      clear hsrc hM8 hMl hLl hM hL HH HS HSS h0
      go_wp2
      go_ret
      exact ⟨rfl, HE.out, HG.out⟩
end Go.Proofs.Ytejipcnihgpdhaa
