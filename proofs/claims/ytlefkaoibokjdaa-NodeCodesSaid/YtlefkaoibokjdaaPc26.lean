/-
  RNdJ: stookref18.row: a text's bytes behind their length.
  RNdK: stookref18.Put.
  RNdM: stookref18.Get.
-/
import Derived.Test.YtlefkaoibokjdaaPc22
import Derived.Test.YtlefkaoibokjdaaPc15
import Derived.Test.YtlefkaoibokjdaaPc19
import Derived.Test.YtlefkaoibokjdaaPc02
import Derived.Test.YtlefkaoibokjdaaPc25
import Derived.Test.YtlefkaoibokjdaaPc24
import Derived.Test.YtlefkaoibokjdaaPc13
import Derived.Test.YtlefkaoibokjdaaPc03
namespace Go.Proofs.Ytlefkaoibokjdaa
open Go.RowKit
set_option linter.unusedVariables false
set_option maxHeartbeats 1000000 in
set_option maxRecDepth 100000 in
theorem rrow_any (x : ByteArray) (w : World) (hx : x.size ≤ 1000000) : Calls Try.prog 41 #[.string x] w (IsFresh (putRow (Nd.oct x)) w) := by
  obtain ⟨Ax, cx, Wx, hcv, hbx, hbwx⟩ := conv_oct w x hx
  have HB := Lib.hid hbwx
  have HPR := Lib.hid (rputRow_any _ (Nd.oct x) _ Wx (Nat.le_refl _) hbx (by rw [Nd.oct_len]; omega))
  clear hbx hbwx
  go_enter Try.func41, Try.ntmps41
  go_wp2_with fail
  refine HPR.out.mono ?_
  rintro e w1 ⟨A1, c1, rfl, o1, b1⟩
  have HO := Lib.hid (o1.mono_ HB.out.size)
  have HB1 := Lib.hid (HB.out.trans (b1.mono HB.out.size))
  clear HPR o1 b1
  go_wp2
  go_ret
  exact ⟨A1, c1, rfl, HO.out, HB1.out⟩
end Go.Proofs.Ytlefkaoibokjdaa
namespace Go.Proofs.Ytlefkaoibokjdaa
open Go.RowKit
set_option linter.unusedVariables false
set_option maxHeartbeats 4000000 in
set_option maxRecDepth 100000 in
theorem rndput_any (n : Nd.Node) (v : Value) (B : Nat) (w : World) (hv : NdIs w B v n) (hB : B ≤ w.heap.size) :
    Calls Try.prog 10 #[v] w (IsBE (Nd.putE n) w) := by
  obtain ⟨Ak, ck, Av, cv, Ai, ci, W, rfl, hk8, hW, H0, hbW, hs, hn⟩ := hv.open_ hB
  have HB := Lib.hid hbW
  have H1 := Lib.hid H0
  have CM := Lib.hid (rmay_any n _ B W hn (by omega))
  have HS := Lib.hid hs
  have HBB := Lib.hid hB
  have c0 := H0.c0
  have c1 := H0.c1
  have c2 := H0.c2
  have c3 := H0.c3
  by_cases hr : Nd.Right n 6 6
  rotate_left
  · have HE : Hid (Nd.putE n = ([], 2)) := if_neg hr
    have e : Nd.may n = false := decide_eq_false hr
    rw [e] at CM
    rw [HE.out]
    clear hv hn H0 hbW hs hB hr e
    unfold ndB at hW
    unfold ndV at *
    go_enter Try.func10, Try.ntmps10
    go_wp2_with fail
    refine CM.out.mono ?_
    rintro e w1 ⟨rfl, b1⟩
    have HB1 := Lib.hid (HB.out.trans (b1.mono HB.out.size))
    clear CM b1
    go_wp2
    go_ret2
    exact ⟨none, 0, rfl, OwnB.nil_ _ _, HB1.out⟩
  have HE : Hid (Nd.putE n = (Nd.bytes n, 0)) := if_pos hr
  have HR := Lib.hid hr
  have e : Nd.may n = true := decide_eq_true hr
  rw [e] at CM
  rw [HE.out]
  have h6 := hr.six
  have wl : IntKind.u64.wrap (n.keys.length : Int) = (n.keys.length : Int) := by rw [IntKind.wrap_u64]; omega
  have HP0 : Hid (∀ w, Calls Try.prog 40 #[.int .u64 (n.keys.length : Nat)] w (IsFresh (Mt.put n.keys.length) w)) := fun w => rput_any 9 n.keys.length w (by omega) (by unfold Mt.B64; omega)
  have H6 := Lib.hid h6
  clear hv hn H0 hbW hs hB e hr
  unfold ndB at hW
  unfold ndV at *
  rcases HR.out.kinds with ⟨hk, hkl, hv0, hk1⟩ | ⟨hk, hvl, hi0⟩
  · have q2 : (((n.kind : Nat) : Int) == 2) = true := by rw [beq_iff_eq]; omega
    have HK2 := Lib.hid hk
    have HKL := Lib.hid hkl
    obtain ⟨bi, oi, xi, hAi, hbi, hxi, hdi, hci⟩ := H1.out.kids.int_ (k := 0) (by omega)
    subst hAi
    have hki := HR.out.kid (i := 0) (by omega)
    rw [List.getD_eq_getElem?_getD, hdi] at hki
    have hki : 2 ≤ xi ∧ xi ≤ 65535 := hki
    have hx0 : Nd.kidAt n 0 = xi.toNat := by unfold Nd.kidAt; rw [List.getD_eq_getElem?_getD, hdi]; rfl
    obtain ⟨m0, rfl⟩ := Int.eq_ofNat_of_zero_le (show 0 ≤ xi by omega)
    rw [Int.toNat_natCast] at hx0
    have w0 : IntKind.u64.wrap (m0 : Int) = (m0 : Int) := by rw [IntKind.wrap_u64]; omega
    have HPK : Hid (∀ w, Calls Try.prog 40 #[.int .u64 (m0 : Nat)] w (IsFresh (Mt.put m0) w)) := fun w => rput_any 9 m0 w (by omega) (by unfold Mt.B64; omega)
    have HX0 := Lib.hid hx0
    have HCI : Hid (∀ w', Below W.heap.size W w' → w'.cell? ⟨bi, oi, none⟩ = some (.int .i64 (m0 : Nat))) := fun w' hb => (hb.cell (p := ⟨bi, oi, none⟩) (by have := HS.out; have := HBB.out; show bi < _; omega)).trans (by simpa using hci)
    have HLI : Hid ((0 : Int) < (n.kids.length : Int)) := by unfold Hid; omega
    clear hk hkl hv0 hk1 hki hx0 hdi hxi hbi hci
    go_enter Try.func10, Try.ntmps10
    go_wp2_with fail
    refine CM.out.mono ?_
    rintro e w1 ⟨rfl, b1⟩
    have hbw1 : Below W.heap.size W w1 := b1
    have HB1 := Lib.hid (HB.out.trans (b1.mono HB.out.size))
    have HBW := Lib.hid hbw1
    have HN1 := Lib.hid (H1.out.below_ hbw1 (by have := HS.out; omega) (by have := HS.out; have := HBB.out; omega))
    have c1a := HN1.out.c1
    have HPA := Lib.hid (HP0.out w1)
    clear CM b1 hbw1 c0 c1 c2 c3
    go_wp2_with fail
    refine HPA.out.mono ?_
    rintro e w2 ⟨A2, k2, rfl, o2, b2⟩
    have HBW2 := Lib.hid (HBW.out.trans (b2.mono HBW.out.size))
    have HO2 : Hid (OwnB w2 W.heap.size (.slice A2 (Mt.put n.keys.length).length k2) (Mt.put n.keys.length)) := o2.mono_ HBW.out.size
    have HB2 := Lib.hid (HB1.out.trans (b2.mono HB1.out.size))
    have HN2 := Lib.hid (H1.out.below_ HBW2.out (by have := HS.out; omega) (by have := HS.out; have := HBB.out; omega))
    have c0b := HN2.out.c0
    have HPLEN := Lib.hid (Mt.put_len_le n.keys.length)
    clear HPA o2 b2 c1a HN1
    have c3b := HN2.out.c3
    have hci2 := HCI.out w2 HBW2.out
    have hli := HLI.out
    have HPB := Lib.hid (HPK.out w2)
    go_wp2_with fail
    refine HPB.out.mono ?_
    rintro e w3 ⟨A3, k3, rfl, o3, b3⟩
    have HX3 := Lib.hid o3.form_
    have HO3 := Lib.hid (HO2.out.below_ b3 (Nat.le_refl _))
    have HBW3 := Lib.hid (HBW2.out.trans (b3.mono HBW2.out.size))
    have hpl3 := Mt.put_len_le m0
    clear HPB o3 b3 c0b c3b hci2 HN2
    go_wp2_with (at_builtin; go_must (refine wpList_append_bytes _ rfl _ _ rfl rfl W.heap.size _ rfl (Mt.put n.keys.length) HO3.out _ rfl _ (Mt.put m0) HX3.out (by have := HPLEN.out; omega) HBW3.out.size ?_))
    intro A4 k4 w4 hA
    have HO4 : Hid (OwnB w4 W.heap.size (.slice A4 (Nd.body n 0).length k4) (Nd.body n 0)) := by
      have e : Nd.body n 0 = Mt.put n.keys.length ++ Mt.put m0 := by show Nd.head n = _; unfold Nd.head; rw [if_pos HK2.out, HX0.out]
      unfold Hid; rw [e]; simpa using hA.own
    have HL4 : Hid ((Mt.put n.keys.length).length + (Mt.put m0).length = (Nd.body n 0).length) := by
      unfold Hid; show _ = (Nd.head n).length; unfold Nd.head; rw [if_pos HK2.out, HX0.out, List.length_append]
    have HBW4 : Hid (Below W.heap.size W w4) := HBW3.out.grown hA.grown HBW3.out.size (fun k hk => (HO3.out.lt_ k hk).1)
    have HN4 := Lib.hid (H1.out.below_ HBW4.out (by have := HS.out; omega) (by have := HS.out; have := HBB.out; omega))
    have c1c := HN4.out.c1
    clear hA hpl3 HX3 HO3
    rw [HL4.out]
    go_wp2
    go_loopw [4, 5] (fun q i wr => ∃ (k : Nat) (A : Option Addr) (c : Nat), k ≤ n.keys.length ∧ i = .int .i64 k ∧ q = .slice A (Nd.body n k).length c ∧ Hid (OwnB wr W.heap.size (.slice A (Nd.body n k).length c) (Nd.body n k)) ∧ Hid (Below W.heap.size W wr)) (fun _ i _ => n.keys.length - (intOf i).toNat)
    case atStart => exact ⟨0, A4, k4, by omega, rfl, rfl, HO4.out, HBW4.out⟩
    case round =>
      obtain ⟨k, A5, c5, hk, rfl, rfl, HO5, HB5⟩ := hrel
      clear HO4 HBW4 HL4 HO2 HB2 HBW2 HBW HB1 HPLEN
      have HNR := Lib.hid (H1.out.below_ HB5.out (by have := HS.out; omega) (by have := HS.out; have := HBB.out; omega))
      by_cases hlt : k < n.keys.length
      rotate_left
      · have ek : k = n.keys.length := by omega
        subst ek
        have hlt2 : ¬ (n.keys.length : Int) < (n.keys.length : Int) := by omega
        have c1r := HNR.out.c1
        have HBF : Hid (Below w.heap.size w wr) := HB.out.trans (HB5.out.mono HB.out.size)
        have HOF : Hid (OwnB wr w.heap.size (.slice A5 (Nd.bytes n).length c5) (Nd.bytes n)) := HO5.out.mono_ (by have := HS.out; omega)
        have HEQ : Hid (Nd.body n n.keys.length = Nd.bytes n) := rfl
        rw [HEQ.out]
        clear hlt hk
        go_wp2
        go_ret2
        exact ⟨A5, c5, rfl, HOF.out, HBF.out⟩
      have hlti : (k : Int) < (n.keys.length : Int) := by omega
      have c1r := HNR.out.c1
      have wk : IntKind.i64.wrap ((k : Int) + 1) = (k : Int) + 1 := by rw [IntKind.wrap_i64]; omega
      obtain ⟨b1, o1, x, hAk, hb1, hx, hd, hcell⟩ := HNR.out.keys.str_ hlt
      have hkey := HR.out.key hlt
      have hxe : n.keys.getD k ByteArray.empty = x := by rw [List.getD_eq_getElem?_getD, hd]; rfl
      rw [hxe] at hkey
      have HBX := HB5
      have HPR := Lib.hid (rrow_any x wr (by omega))
      have HO6 := HO5
      have HRL := Lib.hid (Nd.row_len (x := x) hkey.2)
      have HXE := Lib.hid hxe
      have HBL := Lib.hid (Nd.body_len HR.out k (Nat.le_of_lt hlt))
      have HLT := Lib.hid hlt
      subst hAk
      clear hkey hxe hd hx hb1 HNR HO5 HB5 hlt
      go_wp2_with fail
      refine HPR.out.mono ?_
      rintro e w6 ⟨A6, c6, rfl, o6, b6⟩
      have HX6 := Lib.hid o6.form_
      have HO7 := Lib.hid (HO6.out.below_ b6 (Nat.le_refl _))
      have HB6 := Lib.hid (HBX.out.trans (b6.mono HBX.out.size))
      clear HPR o6 b6 HO6 hcell c1r
      go_wp2_with (at_builtin; go_must (refine wpList_append_bytes _ rfl _ _ rfl rfl W.heap.size _ rfl (Nd.body n k) HO7.out _ rfl _ (putRow (Nd.oct x)) HX6.out (by have := HBL.out; have := HRL.out; have := H6.out; have := HLT.out; omega) HB6.out.size ?_))
      intro A8 c8 w8 hA
      have HO8 : Hid (OwnB w8 W.heap.size (.slice A8 (Nd.body n k ++ putRow (Nd.oct x)).length c8) (Nd.body n k ++ putRow (Nd.oct x))) := by unfold Hid; simpa using hA.own
      have HB8 : Hid (Below W.heap.size W w8) := HB6.out.grown hA.grown HB6.out.size (fun k hk => (HO7.out.lt_ k hk).1)
      have HN8 := Lib.hid (H1.out.below_ HB8.out (by have := HS.out; omega) (by have := HS.out; have := HBB.out; omega))
      have c0d := HN8.out.c0
      obtain ⟨L, hL⟩ : ∃ L, Nd.body n k ++ putRow (Nd.oct x) = L := ⟨_, rfl⟩
      rw [hL] at HO8
      have hls : (Nd.body n k).length + (putRow (Nd.oct x)).length = L.length := by rw [← hL, List.length_append]
      rw [hls]
      have HLL := Lib.hid hL
      have HLN : Hid (L.length ≤ 1000) := by unfold Hid; rw [← hL, List.length_append]; have := HBL.out; have := HRL.out; have := H6.out; have := HLT.out; omega
      clear hA HO7 HX6 HB6 HBX hL hls
      have hlk : k + 1 < n.kids.length := by have := HKL.out; have := HLT.out; omega
      obtain ⟨b9, o9, y, hA9, hb9, hy, hd9, hc9⟩ := HN8.out.kids.int_ hlk
      have hky := HR.out.kid hlk
      rw [List.getD_eq_getElem?_getD, hd9] at hky
      have hky : 2 ≤ y ∧ y ≤ 65535 := hky
      have hye : Nd.kidAt n (k + 1) = y.toNat := by unfold Nd.kidAt; rw [List.getD_eq_getElem?_getD, hd9]; rfl
      obtain ⟨my, rfl⟩ := Int.eq_ofNat_of_zero_le (show 0 ≤ y by omega)
      rw [Int.toNat_natCast] at hye
      have wy : IntKind.u64.wrap (my : Int) = (my : Int) := by rw [IntKind.wrap_u64]; omega
      have HPY := Lib.hid (rput_any 9 my w8 (by omega) (by unfold Mt.B64; omega))
      have hlki : (k : Int) + 1 < (n.kids.length : Int) := by omega
      have hk0 : (0 : Int) ≤ (k : Int) + 1 := by omega
      have htn : ((k : Int) + 1).toNat = k + 1 := by omega
      have c3d := HN8.out.c3
      have HYE := Lib.hid hye
      have HPL9 := Lib.hid (Mt.put_len_le my)
      injection hA9 with hA9
      injection hA9 with hA9a hA9b
      subst hA9a hA9b
      clear hye hky hd9 hy hb9 hlk
      go_wp2_with fail
      refine HPY.out.mono ?_
      rintro e w10 ⟨A10, c10, rfl, o10, b10⟩
      have HX10 := Lib.hid o10.form_
      have HO10 := Lib.hid (HO8.out.below_ b10 (Nat.le_refl _))
      have HB10 := Lib.hid (HB8.out.trans (b10.mono HB8.out.size))
      clear HPY o10 b10 c3d hc9 c0d
      go_wp2_with (at_builtin; go_must (refine wpList_append_bytes _ rfl _ _ rfl rfl W.heap.size _ rfl L HO10.out _ rfl _ (Mt.put my) HX10.out (by have := HLN.out; have := HPL9.out; omega) HB10.out.size ?_))
      intro A11 c11 w11 hA11
      have HE11 : Hid (Nd.body n (k + 1) = L ++ Mt.put my) := by
        unfold Hid
        show Nd.body n k ++ Nd.item n k = _
        unfold Nd.item
        rw [if_pos HK2.out, HYE.out, HXE.out, ← List.append_assoc, HLL.out]
      have HB11 : Hid (Below W.heap.size W w11) := HB10.out.grown hA11.grown HB10.out.size (fun k hk => (HO10.out.lt_ k hk).1)
      have HO11 : Hid (OwnB w11 W.heap.size (.slice A11 (Nd.body n (k + 1)).length c11) (Nd.body n (k + 1))) := by unfold Hid; rw [HE11.out]; simpa using hA11.own
      have hl11 : L.length + (Mt.put my).length = (Nd.body n (k + 1)).length := by rw [HE11.out, List.length_append]
      rw [hl11]
      clear hA11 hl11
      go_wp2
      go_roundw
      case rel => exact ⟨k + 1, A11, c11, by have := HLT.out; omega, by go_num, rfl, HO11.out, HB11.out⟩
      case measure => simp [intOf]; have := HLT.out; omega
  · have q2 : (((n.kind : Nat) : Int) == 2) = false := by rw [beq_eq_false_iff_ne]; omega
    have HK1 := Lib.hid hk
    have HVL := Lib.hid hvl
    clear hk hvl hi0
    go_enter Try.func10, Try.ntmps10
    go_wp2_with fail
    refine CM.out.mono ?_
    rintro e w1 ⟨rfl, b1⟩
    have hbw1 : Below W.heap.size W w1 := b1
    have HB1 := Lib.hid (HB.out.trans (b1.mono HB.out.size))
    have HBW := Lib.hid hbw1
    have HN1 := Lib.hid (H1.out.below_ hbw1 (by have := HS.out; omega) (by have := HS.out; have := HBB.out; omega))
    have c1a := HN1.out.c1
    have HPA := Lib.hid (HP0.out w1)
    clear CM b1 hbw1 c0 c1 c2 c3
    go_wp2_with fail
    refine HPA.out.mono ?_
    rintro e w2 ⟨A2, k2, rfl, o2, b2⟩
    have HBW2 := Lib.hid (HBW.out.trans (b2.mono HBW.out.size))
    have HO2 : Hid (OwnB w2 W.heap.size (.slice A2 (Mt.put n.keys.length).length k2) (Mt.put n.keys.length)) := o2.mono_ HBW.out.size
    have HB2 := Lib.hid (HB1.out.trans (b2.mono HB1.out.size))
    have HN2 := Lib.hid (H1.out.below_ HBW2.out (by have := HS.out; omega) (by have := HS.out; have := HBB.out; omega))
    have c0b := HN2.out.c0
    have HPLEN := Lib.hid (Mt.put_len_le n.keys.length)
    clear HPA o2 b2 c1a HN1
    have c1c := HN2.out.c1
    have HO4 : Hid (OwnB w2 W.heap.size (.slice A2 (Nd.body n 0).length k2) (Nd.body n 0)) := by
      have e : Nd.body n 0 = Mt.put n.keys.length := by show Nd.head n = _; unfold Nd.head; rw [if_neg (by have := HK1.out; omega), List.append_nil]
      unfold Hid; rw [e]; exact HO2.out
    have HL4 : Hid ((Mt.put n.keys.length).length = (Nd.body n 0).length) := by
      unfold Hid; show _ = (Nd.head n).length; unfold Nd.head; rw [if_neg (by have := HK1.out; omega), List.append_nil]
    have HBW4 := HBW2
    rw [HL4.out]
    go_wp2
    go_loopw [4, 5] (fun q i wr => ∃ (k : Nat) (A : Option Addr) (c : Nat), k ≤ n.keys.length ∧ i = .int .i64 k ∧ q = .slice A (Nd.body n k).length c ∧ Hid (OwnB wr W.heap.size (.slice A (Nd.body n k).length c) (Nd.body n k)) ∧ Hid (Below W.heap.size W wr)) (fun _ i _ => n.keys.length - (intOf i).toNat)
    case atStart => exact ⟨0, A2, k2, by omega, rfl, rfl, HO4.out, HBW4.out⟩
    case round =>
      obtain ⟨k, A5, c5, hk, rfl, rfl, HO5, HB5⟩ := hrel
      clear HO4 HBW4 HL4 HO2 HB2 HBW2 HBW HB1 HPLEN
      have HNR := Lib.hid (H1.out.below_ HB5.out (by have := HS.out; omega) (by have := HS.out; have := HBB.out; omega))
      by_cases hlt : k < n.keys.length
      rotate_left
      · have ek : k = n.keys.length := by omega
        subst ek
        have hlt2 : ¬ (n.keys.length : Int) < (n.keys.length : Int) := by omega
        have c1r := HNR.out.c1
        have HBF : Hid (Below w.heap.size w wr) := HB.out.trans (HB5.out.mono HB.out.size)
        have HOF : Hid (OwnB wr w.heap.size (.slice A5 (Nd.bytes n).length c5) (Nd.bytes n)) := HO5.out.mono_ (by have := HS.out; omega)
        have HEQ : Hid (Nd.body n n.keys.length = Nd.bytes n) := rfl
        rw [HEQ.out]
        clear hlt hk
        go_wp2
        go_ret2
        exact ⟨A5, c5, rfl, HOF.out, HBF.out⟩
      have hlti : (k : Int) < (n.keys.length : Int) := by omega
      have c1r := HNR.out.c1
      have wk : IntKind.i64.wrap ((k : Int) + 1) = (k : Int) + 1 := by rw [IntKind.wrap_i64]; omega
      obtain ⟨b1, o1, x, hAk, hb1, hx, hd, hcell⟩ := HNR.out.keys.str_ hlt
      have hkey := HR.out.key hlt
      have hxe : n.keys.getD k ByteArray.empty = x := by rw [List.getD_eq_getElem?_getD, hd]; rfl
      rw [hxe] at hkey
      have HBX := HB5
      have HPR := Lib.hid (rrow_any x wr (by omega))
      have HO6 := HO5
      have HRL := Lib.hid (Nd.row_len (x := x) hkey.2)
      have HXE := Lib.hid hxe
      have HBL := Lib.hid (Nd.body_len HR.out k (Nat.le_of_lt hlt))
      have HLT := Lib.hid hlt
      subst hAk
      clear hkey hxe hd hx hb1 HNR HO5 HB5 hlt
      go_wp2_with fail
      refine HPR.out.mono ?_
      rintro e w6 ⟨A6, c6, rfl, o6, b6⟩
      have HX6 := Lib.hid o6.form_
      have HO7 := Lib.hid (HO6.out.below_ b6 (Nat.le_refl _))
      have HB6 := Lib.hid (HBX.out.trans (b6.mono HBX.out.size))
      clear HPR o6 b6 HO6 hcell c1r
      go_wp2_with (at_builtin; go_must (refine wpList_append_bytes _ rfl _ _ rfl rfl W.heap.size _ rfl (Nd.body n k) HO7.out _ rfl _ (putRow (Nd.oct x)) HX6.out (by have := HBL.out; have := HRL.out; have := H6.out; have := HLT.out; omega) HB6.out.size ?_))
      intro A8 c8 w8 hA
      have HO8 : Hid (OwnB w8 W.heap.size (.slice A8 (Nd.body n k ++ putRow (Nd.oct x)).length c8) (Nd.body n k ++ putRow (Nd.oct x))) := by unfold Hid; simpa using hA.own
      have HB8 : Hid (Below W.heap.size W w8) := HB6.out.grown hA.grown HB6.out.size (fun k hk => (HO7.out.lt_ k hk).1)
      have HN8 := Lib.hid (H1.out.below_ HB8.out (by have := HS.out; omega) (by have := HS.out; have := HBB.out; omega))
      have c0d := HN8.out.c0
      obtain ⟨L, hL⟩ : ∃ L, Nd.body n k ++ putRow (Nd.oct x) = L := ⟨_, rfl⟩
      rw [hL] at HO8
      have hls : (Nd.body n k).length + (putRow (Nd.oct x)).length = L.length := by rw [← hL, List.length_append]
      rw [hls]
      have HLL := Lib.hid hL
      have HLN : Hid (L.length ≤ 1000) := by unfold Hid; rw [← hL, List.length_append]; have := HBL.out; have := HRL.out; have := H6.out; have := HLT.out; omega
      clear hA HO7 HX6 HB6 HBX hL hls
      have hlk : k < n.vals.length := by have := HVL.out; have := HLT.out; omega
      obtain ⟨b9, o9, y, hA9, hb9, hy, hd9, hc9⟩ := HN8.out.vals.str_ hlk
      have hvy := HR.out.val hlk
      have hye : n.vals.getD k ByteArray.empty = y := by rw [List.getD_eq_getElem?_getD, hd9]; rfl
      rw [hye] at hvy
      have HBY := HB8
      have HPY := Lib.hid (rrow_any y w8 (by omega))
      have HO9 := HO8
      have HPL9 := Lib.hid (Nd.row_len (x := y) hvy)
      have hlki : (k : Int) < (n.vals.length : Int) := by omega
      have hk0 : (0 : Int) ≤ (k : Int) := by omega
      have c2d := HN8.out.c2
      have HYE := Lib.hid hye
      subst hA9
      clear hye hvy hd9 hy hb9 hlk HO8
      go_wp2_with fail
      refine HPY.out.mono ?_
      rintro e w10 ⟨A10, c10, rfl, o10, b10⟩
      have HX10 := Lib.hid o10.form_
      have HO10 := Lib.hid (HO9.out.below_ b10 (Nat.le_refl _))
      have HB10 := Lib.hid (HBY.out.trans (b10.mono HBY.out.size))
      clear HPY o10 b10 c2d hc9 c0d HO9
      go_wp2_with (at_builtin; go_must (refine wpList_append_bytes _ rfl _ _ rfl rfl W.heap.size _ rfl L HO10.out _ rfl _ (putRow (Nd.oct y)) HX10.out (by have := HLN.out; have := HPL9.out; omega) HB10.out.size ?_))
      intro A11 c11 w11 hA11
      have HE11 : Hid (Nd.body n (k + 1) = L ++ putRow (Nd.oct y)) := by
        unfold Hid
        show Nd.body n k ++ Nd.item n k = _
        unfold Nd.item
        rw [if_neg (by have := HK1.out; omega), HYE.out, HXE.out, ← List.append_assoc, HLL.out]
      have HB11 : Hid (Below W.heap.size W w11) := HB10.out.grown hA11.grown HB10.out.size (fun k hk => (HO10.out.lt_ k hk).1)
      have HO11 : Hid (OwnB w11 W.heap.size (.slice A11 (Nd.body n (k + 1)).length c11) (Nd.body n (k + 1))) := by unfold Hid; rw [HE11.out]; simpa using hA11.own
      have hl11 : L.length + (putRow (Nd.oct y)).length = (Nd.body n (k + 1)).length := by rw [HE11.out, List.length_append]
      rw [hl11]
      clear hA11 hl11
      go_wp2
      go_roundw
      case rel => exact ⟨k + 1, A11, c11, by have := HLT.out; omega, by go_num, rfl, HO11.out, HB11.out⟩
      case measure => simp [intOf]; have := HLT.out; omega
end Go.Proofs.Ytlefkaoibokjdaa
namespace Go.Proofs.Ytlefkaoibokjdaa
open Go.RowKit
set_option linter.unusedVariables false
namespace Nd
theorem getE_bad {kind : Nat} {l : List Nat} {e : Nat} (hk : kind = 1 ∨ kind = 2) (he : e ≠ 0) (j : Nat) (hj : j ≤ (numE l (0, 0) 6).1) (h : (loopE l (startE kind l) j).2.2 = e) : getE kind l = (zero, e) := by
  have h1 : (readE kind l).2.2 = e := (loop_err hj (by omega)).trans h
  unfold getE
  rw [if_neg (by omega), if_pos (by omega), h1]
theorem getE_end {kind : Nat} {l : List Nat} {n : Node} {a : Nat} (hk : kind = 1 ∨ kind = 2) (h : readE kind l = (n, a, 0)) : getE kind l = if a < l.length ∨ ¬ Right n 6 6 then (zero, 5) else (n, 0) := by
  unfold getE
  rw [if_neg (by omega), h, if_neg (by simp)]
theorem start_bad {kind : Nat} {l : List Nat} (h : (Mt.count l 0 6).2.2 ≠ 0) : (startE kind l).2.2 = (Mt.count l 0 6).2.2 := by
  have h1 : (numE l (0, 0) 6).2.2 = (Mt.count l 0 6).2.2 := num_bad (a := 0) (most := 6) h
  unfold startE
  split
  · simp only
    rw [num_stuck (by rw [h1]; exact h), h1]
  · exact h1
theorem start_leaf {kind : Nat} {l : List Nat} {c a : Nat} (hk : kind = 1) (h : Mt.count l 0 6 = (c, a, 0)) : startE kind l = (⟨kind, [], [], []⟩, a, 0) ∧ (numE l (0, 0) 6).1 = c := by
  have h1 : numE l (0, 0) 6 = (c, a, 0) := (num_ok (a := 0) (most := 6) (congrArg (·.2.2) h)).trans h
  unfold startE
  rw [if_neg (by omega), h1]
  exact ⟨rfl, rfl⟩
theorem start_inner {kind : Nat} {l : List Nat} {c a x b : Nat} (hk : kind = 2) (h : Mt.count l 0 6 = (c, a, 0)) (h2 : Mt.count l (a : Int) 65535 = (x, b, 0)) : startE kind l = (⟨kind, [], [], [(x : Int)]⟩, b, 0) ∧ (numE l (0, 0) 6).1 = c := by
  have h1 : numE l (0, 0) 6 = (c, a, 0) := (num_ok (a := 0) (most := 6) (congrArg (·.2.2) h)).trans h
  have h3 : numE l (a, 0) 65535 = (x, b, 0) := (num_ok (most := 65535) (congrArg (·.2.2) h2)).trans h2
  subst hk
  unfold startE
  rw [if_pos rfl, h1, h3]
  exact ⟨rfl, rfl⟩
theorem start_innerBad {kind : Nat} {l : List Nat} {c a : Nat} (hk : kind = 2) (h : Mt.count l 0 6 = (c, a, 0)) (h2 : (Mt.count l (a : Int) 65535).2.2 ≠ 0) : (startE kind l).2.2 = (Mt.count l (a : Int) 65535).2.2 := by
  have h1 : numE l (0, 0) 6 = (c, a, 0) := (num_ok (a := 0) (most := 6) (congrArg (·.2.2) h)).trans h
  have h3 := num_bad (most := 65535) h2
  unfold startE
  rw [if_pos hk, h1]
  exact h3
end Nd
theorem NdMk.below_ {w w' : World} {base g : Nat} {n : Nd.Node} {Ak Av Ai : Option Addr} {ck cv ci : Nat} (h : NdMk w base g n Ak ck Av cv Ai ci) (hb : Below w.heap.size w w') : NdMk w' base g n Ak ck Av cv Ai ci :=
  ⟨h.row.below hb h.row.lt, h.lo, Nat.le_trans h.top hb.size, h.keys.below_ hb (Nat.le_refl _), h.vals.below_ hb (Nat.le_refl _), h.kids.below_ hb (Nat.le_refl _), h.apart⟩
theorem conv_bs {w : World} {B c : Nat} {A : Option Addr} {l : List Nat} (hv : Bv w B (.slice A l.length c) l) : (convert 27 9 (.slice A l.length c)).run Try.prog w = .ok (.string (bstr l)) w := by
  by_cases hp : 0 < l.length
  · exact conv_str hv.lv_ hp
  · have : l = [] := List.length_eq_zero_iff.1 (by omega)
    subst this
    exact conv_str0 A c w
set_option maxRecDepth 100000 in
theorem nd_built0 : Try.prog.built 26 [] = some ndZ := by kernel_rfl
set_option maxRecDepth 100000 in
theorem nd_built1 (x : Int) : Try.prog.built 26 [(0, .int .u8 x)] = some #[.int .u8 x, .slice none 0 0, .slice none 0 0, .slice none 0 0] := by kernel_rfl
set_option maxHeartbeats 4000000 in
set_option maxRecDepth 100000 in
theorem rndget1_any (kind : Nat) (hk : kind = 1) (v : Value) (l : List Nat) (B : Nat) (w : World) (hv : Bv w B v l) (hB : B ≤ w.heap.size) (hsz : l.length ≤ 140737488355328) :
    Calls Try.prog 18 #[.int .u8 (kind : Nat), v] w (IsNdE (Nd.getE kind l) w) := by
  have hz := (zero_of_info nd_zero).1
  have hv9 : ∃ A c, v = .slice A l.length c := by obtain ⟨A, c, e, _⟩ := hv; exact ⟨A, c, e⟩
  obtain ⟨A0, c0, rfl⟩ := hv9
  have HBY := Lib.hid hv.lt_
  obtain ⟨W, hW⟩ : ∃ W, w.alloc (.cells ndZ 26) = W := ⟨_, rfl⟩
  have hbW : Below w.heap.size w W := by rw [← hW]; exact (Below.refl _ _).alloc (Nat.le_refl _) _
  have hrW : Rw W w.heap.size 26 ndZ := by rw [← hW]; exact Rw.new w _ _
  have hsW : W.heap.size = w.heap.size + 1 := by rw [← hW]; simp
  have HB := Lib.hid hbW
  have HR := Lib.hid hrW
  have HS := Lib.hid hsW
  have HBB := Lib.hid hB
  have HSN : Hid ((Try.prog.info? 26).map (·.size) = some ndZ.size) := by unfold Hid; kernel_rfl
  have HZ1 : Hid (ndZ.all (·.oneCell') = true) := by unfold Hid; simp [ndZ, Value.oneCell']
  have HL : Hid (l.length ≤ 140737488355328) := hsz
  have hll : l.length ≤ 9223372036854775807 := by omega
  have hb0 := nd_built0
  obtain ⟨N0, hN0⟩ : ∃ C : Array Value, #[.int .u8 (kind : Nat), .slice none 0 0, .slice none 0 0, .slice none 0 0] = C := ⟨_, rfl⟩
  have hb1 : Try.prog.built 26 [(0, .int .u8 (kind : Nat))] = some N0 := by rw [← hN0]; exact nd_built1 _
  have HS0 : Hid ((Try.prog.info? 26).map (·.size) = some N0.size) := by unfold Hid; rw [← hN0]; kernel_rfl
  have HO0 : Hid (N0.all (·.oneCell') = true) := by unfold Hid; rw [← hN0]; simp [Value.oneCell']
  have HZN : Hid (ndZ.size = N0.size) := by unfold Hid; rw [← hN0]; rfl
  obtain ⟨X, hX⟩ : ∃ X, (W.alloc (.cells ndZ 26)).setRow W.heap.size N0 = X := ⟨_, rfl⟩
  have hrx : Rw X W.heap.size 26 N0 := by rw [← hX]; exact (Rw.new W _ _).row N0
  have hbx : Below W.heap.size W X := by rw [← hX]; exact below_setRow ((Below.refl _ _).alloc (Nat.le_refl _) _) (Nat.le_refl _) _
  have HM0 : Hid (NdMk X X.heap.size W.heap.size ⟨kind, [], [], []⟩ none 0 none 0 none 0) :=
    ⟨by have := hrx; rw [← hN0] at this; exact this, hrx.lt, Nat.le_refl _, OwnL.nil_ _ _ _, OwnL.nil_ _ _ _, OwnL.nil_ _ _ _, fun k hk => by cases hk⟩
  have HBX := Lib.hid hbx
  have HV := Lib.hid (hv.below_ hbW hB)
  have HBXw : Hid (Below w.heap.size w X) := hbW.trans (hbx.mono (by omega))
  have HRX : Hid (Rw X w.heap.size 26 ndZ) := hrW.below hbx (by omega)
  have C0 := Lib.hid (rcount_any _ l B 0 6 X (HV.out.below_ hbx (by omega)) (by decide))
  have HW1 : Hid (∀ (T : World), Below W.heap.size W T → Bv T B (.slice A0 l.length c0) l ∧ Below w.heap.size w T ∧ Rw T w.heap.size 26 ndZ ∧ B ≤ T.heap.size) := fun T hT =>
    ⟨HV.out.below_ hT (by have := HS.out; have := HBB.out; omega), HB.out.trans (hT.mono (by have := HS.out; omega)), HR.out.below hT (by have := HS.out; omega), by have := HS.out; have := HBB.out; have := hT.size; omega⟩
  clear hv hB hsz hbW hrW hsW hrx hbx hN0
  obtain ⟨Z, hZ⟩ : ∃ Z, ndZ = Z := ⟨_, rfl⟩
  have HZE := Lib.hid hZ
  rw [hZ] at hW hX HR HSN HZ1 hz hb0 HZN HRX HW1
  clear hZ
  have HKW : Hid (kind = 1 ∨ kind = 2) := by unfold Hid; omega
  have HK := Lib.hid hk
  have q1 : (((kind : Nat) : Int) != 1) = false := by rw [bne_eq_false_iff_eq]; omega
  have q2 : (((kind : Nat) : Int) == 2) = false := by rw [beq_eq_false_iff_ne]; omega
  obtain ⟨⟨cn, a0, e0⟩, hc0⟩ : ∃ r, Mt.count l 0 6 = r := ⟨_, rfl⟩
  have HC0 := Lib.hid hc0
  rw [hc0] at C0
  clear hk hc0
  go_enter Try.func18, Try.ntmps18
  go_wp2_with (first
    | ((with_reducible refine gate_build 26 ?_); refine wpList_build_atT rfl _ #[] rfl Z ?hf ?_; (case hf => first | exact hb0 | (rw [← hb0]; congr 1; kernel_rfl)))
    | ((with_reducible refine gate_build 26 ?_); refine wpList_build_atT rfl _ #[(0, .tmp 27)] rfl N0 ?hf ?_; (case hf => first | exact hb1 | (rw [← hb1]; congr 1; kernel_rfl)))
    | (refine wpList_store_row rfl _ _ _ rfl W.heap.size N0 rfl rfl 26 Z (Rw.new W _ _) HS0.out HZN.out HO0.out ?_; rw [hX]))
  refine C0.out.mono ?_
  rintro e w1 ⟨rfl, b1⟩
  have HB1 : Hid (Below W.heap.size W w1) := HBX.out.trans (b1.mono HBX.out.size)
  have HM1 : Hid (NdMk w1 X.heap.size W.heap.size ⟨kind, [], [], []⟩ none 0 none 0 none 0) := HM0.out.below_ b1
  obtain ⟨hv1, hw1, hr1, -⟩ := HW1.out w1 HB1.out
  have HV1 := Lib.hid hv1
  have HBw1 := Lib.hid hw1
  have HR1 := Lib.hid hr1
  clear C0 b1 hv1 hw1 hr1 HM0 hX hW HBX HBXw HRX HR
  simp only
  by_cases he0 : e0 = 0
  rotate_left
  · have qe : ((e0 : Int) != 0) = true := by rw [bne_iff_ne]; omega
    have HE : Hid (Nd.getE kind l = (Nd.zero, e0)) := Nd.getE_bad HKW.out he0 0 (Nat.zero_le _) ((Nd.start_bad (by rw [HC0.out]; exact he0)).trans (by rw [HC0.out]))
    clear he0
    go_wp2_with (first
      | ((with_reducible refine gate_build 26 ?_); refine wpList_build_atT rfl _ #[] rfl Z ?hf ?_; (case hf => first | exact hb0 | (rw [← hb0]; congr 1; kernel_rfl)))
      | (refine wpList_store_row rfl _ _ _ rfl w.heap.size Z rfl rfl 26 Z HR1.out HSN.out rfl HZ1.out ?_))
    exact IsNdE.ret0 rfl rfl rfl rfl (by have := HR1.out.row Z; rw [← HZE.out] at this ⊢; exact this) HE.out (below_setRow HBw1.out (Nat.le_refl _) _)
  subst he0
  have hca := Nd.count_at HBY.out (a := 0) (most := 6) (by rw [HC0.out])
  rw [HC0.out] at hca
  obtain ⟨hal0, hcn⟩ := hca
  have hcn : cn ≤ 6 := by simp only at hcn; omega
  have hal0 : a0 ≤ l.length := hal0
  have HAL0 := Lib.hid hal0
  have HST := Lib.hid (Nd.start_leaf HK.out HC0.out)
  have HLP : Hid (Nd.loopE l (Nd.startE kind l) 0 = (⟨kind, [], [], []⟩, a0, 0)) := HST.out.1
  have HCN := Lib.hid HST.out.2
  clear hal0
  go_wp2
  go_loopw [8, 13] (fun q i wr => ∃ (k a : Nat) (n : Nd.Node) (Ak : Option Addr) (ck : Nat) (Av : Option Addr) (cv : Nat) (Ai : Option Addr) (ci : Nat), k ≤ cn ∧ i = .int .i64 (k : Nat) ∧ q = .int .i64 (a : Nat) ∧ Hid (Nd.loopE l (Nd.startE kind l) k = (n, a, 0)) ∧ Hid (a ≤ l.length) ∧ Hid (NdMk wr X.heap.size W.heap.size n Ak ck Av cv Ai ci) ∧ Hid (Below W.heap.size W wr)) (fun _ i _ => cn - (intOf i).toNat)
  case atStart => exact ⟨0, a0, ⟨kind, [], [], []⟩, none, 0, none, 0, none, 0, by omega, rfl, rfl, HLP.out, HAL0.out, HM1.out, HB1.out⟩
  case round =>
    obtain ⟨k, a, n, Ak, ck, Av, cv, Ai, ci, hk, rfl, rfl, HLk, HAk, HM, HBr⟩ := hrel
    obtain ⟨hv1, hw1, hr1, hB1⟩ := HW1.out wr HBr.out
    have HVr := Lib.hid hv1
    have HBwr := Lib.hid hw1
    have HRr := Lib.hid hr1
    have HBBr := Lib.hid hB1
    have HKD : Hid (n.kind = kind) := by
      have h1 := Nd.loop_kind l (Nd.startE kind l) k
      rw [HLk.out, HST.out.1] at h1
      exact h1
    have HLN : Hid (n.keys.length ≤ 20 ∧ n.vals.length ≤ 20 ∧ n.kids.length ≤ 20) := by
      have h1 := Nd.loop_len l (Nd.startE kind l) k
      rw [HLk.out, HST.out.1] at h1
      simp only [List.length_nil] at h1
      exact ⟨by omega, by omega, by omega⟩
    clear hv1 hw1 hr1 hB1 HLP
    by_cases hlt : k < cn
    · have hlti : (k : Int) < (cn : Int) := by omega
      have hjk : k + 1 ≤ (Nd.numE l (0, 0) 6).1 := by rw [HCN.out]; omega
      have HJ := Lib.hid hjk
      have hk1 : (k : Int) + 1 ≤ 9223372036854775807 := by omega
      obtain ⟨⟨bs, a2, e2⟩, hc2⟩ : ∃ r, Mt.getRow l (a : Int) 40 = r := ⟨_, rfl⟩
      have HC2 := Lib.hid hc2
      have C2 := Lib.hid (rgetRow_any _ l B (a : Int) 40 wr HBBr.out HVr.out (by decide) HL.out)
      rw [hc2] at C2
      clear hc2 hjk
      go_wp2_with fail
      refine C2.out.mono ?_
      rintro e w4 ⟨A4, c4, rfl, o4, b4⟩
      have HB4 : Hid (Below W.heap.size W w4) := HBr.out.trans (b4.mono HBr.out.size)
      have HM4 : Hid (NdMk w4 X.heap.size W.heap.size n Ak ck Av cv Ai ci) := HM.out.below_ b4
      have HO4 := Lib.hid o4.form_
      obtain ⟨hv1, hw1, hr1, hB1⟩ := HW1.out w4 HB4.out
      have HV4 := Lib.hid hv1
      have HBw4 := Lib.hid hw1
      have HR4 := Lib.hid hr1
      clear C2 b4 o4 hv1 hw1 hr1 hB1 HM HBr HVr HBwr HRr HBBr
      simp only at HO4 ⊢
      by_cases he2 : e2 = 0
      rotate_left
      · have qe : ((e2 : Int) != 0) = true := by rw [bne_iff_ne]; omega
        have HE : Hid (Nd.getE kind l = (Nd.zero, e2)) := Nd.getE_bad HKW.out he2 (k + 1) HJ.out (by
          show (Nd.stepE l (Nd.loopE l (Nd.startE kind l) k)).2.2 = _
          rw [HLk.out, Nd.step_err (by rw [HC2.out]; exact he2), HC2.out])
        clear he2
        go_wp2_with (first
          | ((with_reducible refine gate_build 26 ?_); refine wpList_build_atT rfl _ #[] rfl Z ?hf ?_; (case hf => first | exact hb0 | (rw [← hb0]; congr 1; kernel_rfl)))
          | (refine wpList_store_row rfl _ _ _ rfl w.heap.size Z rfl rfl 26 Z HR4.out HSN.out rfl HZ1.out ?_))
        exact IsNdE.ret0 rfl rfl rfl rfl (by have := HR4.out.row Z; rw [← HZE.out] at this ⊢; exact this) HE.out (below_setRow HBw4.out (Nat.le_refl _) _)
      subst he2
      have hra := Nd.row_at HBY.out (a := (a : Int)) (most := 40) (by rw [HC2.out])
      rw [HC2.out] at hra
      have HAL2 : Hid (a2 ≤ l.length) := hra.1
      have hbl : bs.length ≤ 40 := by have := hra.2; simp only at this; omega
      have hokk : sK.ok (bstr bs) := by show (bstr bs).size ≤ maxLen; rw [bstr_size]; simp only [maxLen]; omega
      have hcv := conv_bs HO4.out
      obtain ⟨m0, m1, m2, m3⟩ := HM4.out.cells
      clear hra hbl
      go_wp2_with (at_builtin; go_must (refine wpList_push_m _ sK rfl _ _ rfl X.heap.size (.slice Ak n.keys.length ck) rfl n.keys HM4.out.keys rfl (bstr bs) hokk _ rfl _ rfl (by show (_ + 1) * 16 ≤ _; have := HLN.out; omega) (by have := HLN.out; simp only [maxLen]; omega) HM4.out.top ?_); intro Ap cp w3 hA hG hM; have hr3 := HM4.out.grown_row (fun k hk => (HM4.out.keys.lt_ k hk).1) hG; have zp := hr3.frozen 1; have yp : w3.cell? ⟨W.heap.size, 1, none⟩ = some (.slice Ak n.keys.length ck) := hr3.cell 1; have HMp := Lib.hid (HM4.out.key (x := (bstr bs)) hA hG hM); have HBp := Lib.hid (HB4.out.trans (grown_below hG (fun k hk => (HM4.out.keys.lt_ k hk).1) HM4.out.top HM4.out.lo (.slice Ap (n.keys.length + 1) cp) (off := 1))); obtain ⟨Wp, hWp⟩ : ∃ W', w3.setCell ⟨W.heap.size, 1, none⟩ (.slice Ap (n.keys.length + 1) cp) = W' := ⟨_, rfl⟩; rw [hWp] at HMp HBp; clear hA hG hM hr3)
      obtain ⟨hv1, hw1, hr1, hB1⟩ := HW1.out Wp HBp.out
      have HVp := Lib.hid hv1
      have HBwp := Lib.hid hw1
      have HRp := Lib.hid hr1
      have HBBp := Lib.hid hB1
      clear hv1 hw1 hr1 hB1 hWp zp yp m0 m1 m2 m3 HM4 HB4 HO4 HV4 HBw4 HR4 hcv
      obtain ⟨⟨bt, a3, e3⟩, hc3⟩ : ∃ r, Mt.getRow l (a2 : Int) 40 = r := ⟨_, rfl⟩
      have HC3 := Lib.hid hc3
      have C3 := Lib.hid (rgetRow_any _ l B (a2 : Int) 40 Wp HBBp.out HVp.out (by decide) HL.out)
      rw [hc3] at C3
      clear hc3
      have HK2 : Hid (n.kind ≠ 2) := by unfold Hid; rw [HKD.out, HK.out]; decide
      have HSE : Hid (Nd.loopE l (Nd.startE kind l) (k + 1) = (⟨n.kind, n.keys ++ [bstr bs], n.vals ++ [bstr bt], n.kids⟩, a3, e3)) := by
        show Nd.stepE l (Nd.loopE l (Nd.startE kind l) k) = _
        rw [HLk.out, Nd.step_leaf HK2.out (by rw [HC2.out]), HC2.out]
        simp only
        rw [HC3.out]
      refine C3.out.mono ?_
      rintro e w6 ⟨A6, c6, rfl, o6, b6⟩
      have HO6 := Lib.hid o6.form_
      have HB6 : Hid (Below W.heap.size W w6) := HBp.out.trans (b6.mono HBp.out.size)
      have HM6 : Hid (NdMk w6 X.heap.size W.heap.size _ _ _ _ _ _ _) := HMp.out.below_ b6
      obtain ⟨hv1, hw1, hr1, hB1⟩ := HW1.out w6 HB6.out
      have HV6 := Lib.hid hv1
      have HBw6 := Lib.hid hw1
      have HR6 := Lib.hid hr1
      clear C3 b6 hv1 hw1 hr1 hB1 HMp HBp HVp HBwp HRp HBBp
      try clear o6
      try simp only at HO6
      simp only
      by_cases he3 : e3 = 0
      rotate_left
      · have qe : ((e3 : Int) != 0) = true := by rw [bne_iff_ne]; omega
        have HE : Hid (Nd.getE kind l = (Nd.zero, e3)) := Nd.getE_bad HKW.out he3 (k + 1) HJ.out (by rw [HSE.out])
        clear he3
        go_wp2_with (first
          | ((with_reducible refine gate_build 26 ?_); refine wpList_build_atT rfl _ #[] rfl Z ?hf ?_; (case hf => first | exact hb0 | (rw [← hb0]; congr 1; kernel_rfl)))
          | (refine wpList_store_row rfl _ _ _ rfl w.heap.size Z rfl rfl 26 Z HR6.out HSN.out rfl HZ1.out ?_))
        exact IsNdE.ret0 rfl rfl rfl rfl (by have := HR6.out.row Z; rw [← HZE.out] at this ⊢; exact this) HE.out (below_setRow HBw6.out (Nat.le_refl _) _)
      subst he3
      have hra := Nd.row_at HBY.out (a := (a2 : Int)) (most := 40) (by rw [HC3.out])
      rw [HC3.out] at hra
      have HAL3 : Hid (a3 ≤ l.length) := hra.1
      have hbl : bt.length ≤ 40 := by have := hra.2; simp only at this; omega
      have hokk : sK.ok (bstr bt) := by show (bstr bt).size ≤ maxLen; rw [bstr_size]; simp only [maxLen]; omega
      have hcv := conv_bs HO6.out
      obtain ⟨m0, m1, m2, m3⟩ := HM6.out.cells
      clear hra hbl
      go_wp2_with (at_builtin; go_must (refine wpList_push_m _ sK rfl _ _ rfl X.heap.size (.slice Av n.vals.length cv) rfl n.vals HM6.out.vals rfl (bstr bt) hokk _ rfl _ rfl (by show (_ + 1) * 16 ≤ _; have := HLN.out; omega) (by have := HLN.out; simp only [maxLen]; omega) HM6.out.top ?_); intro Aq cq w3 hA hG hM; have hr3 := HM6.out.grown_row (fun k hk => (HM6.out.vals.lt_ k hk).1) hG; have zq := hr3.frozen 2; have yq : w3.cell? ⟨W.heap.size, 2, none⟩ = some (.slice Av n.vals.length cv) := hr3.cell 2; have HMq := Lib.hid (HM6.out.val (x := (bstr bt)) hA hG hM); have HBq := Lib.hid (HB6.out.trans (grown_below hG (fun k hk => (HM6.out.vals.lt_ k hk).1) HM6.out.top HM6.out.lo (.slice Aq (n.vals.length + 1) cq) (off := 2))); obtain ⟨Wq, hWq⟩ : ∃ W', w3.setCell ⟨W.heap.size, 2, none⟩ (.slice Aq (n.vals.length + 1) cq) = W' := ⟨_, rfl⟩; rw [hWq] at HMq HBq; clear hA hG hM hr3)
      go_roundw
      case rel => exact ⟨k + 1, a3, ⟨n.kind, n.keys ++ [bstr bs], n.vals ++ [bstr bt], n.kids⟩, Ap, cp, Aq, cq, Ai, ci, by omega, by go_num, rfl, HSE.out, HAL3.out, HMq.out, HBq.out⟩
      case measure => simp [intOf]; omega
    · have ek : k = cn := by omega
      subst ek
      have hlt2 : ¬ (k : Int) < (k : Int) := by omega
      have HRD : Hid (Nd.readE kind l = (n, a, 0)) := by unfold Hid Nd.readE; rw [HCN.out]; exact HLk.out
      have HGE : Hid (Nd.getE kind l = if a < l.length ∨ ¬ Nd.Right n 6 6 then (Nd.zero, 5) else (n, 0)) := Nd.getE_end HKW.out HRD.out
      clear hlt hk
      by_cases hal : a = l.length
      rotate_left
      · have qn : ((a : Int) != (l.length : Int)) = true := by rw [bne_iff_ne]; omega
        have HE : Hid (Nd.getE kind l = (Nd.zero, 5)) := by unfold Hid; rw [HGE.out, if_pos (.inl (by have := HAk.out; omega))]
        clear hal
        go_wp2_with (first
          | ((with_reducible refine gate_build 26 ?_); refine wpList_build_atT rfl _ #[] rfl Z ?hf ?_; (case hf => first | exact hb0 | (rw [← hb0]; congr 1; kernel_rfl)))
          | (refine wpList_store_row rfl _ _ _ rfl w.heap.size Z rfl rfl 26 Z HRr.out HSN.out rfl HZ1.out ?_))
        exact IsNdE.ret0 rfl rfl rfl rfl (by have := HRr.out.row Z; rw [← HZE.out] at this ⊢; exact this) HE.out (below_setRow HBwr.out (Nat.le_refl _) _)
      have qn : ((a : Int) != (l.length : Int)) = false := by rw [bne_eq_false_iff_eq]; omega
      have HK8 : Hid (n.kind < 256) := by unfold Hid; rw [HKD.out]; have := HKW.out; omega
      have HNI : Hid (NdIs wr wr.heap.size (.agg (ndC n Ak ck Av cv Ai ci)) n) := ⟨Ak, ck, Av, cv, Ai, ci, rfl, HK8.out, HM.out.keys.form_, HM.out.vals.form_, HM.out.kids.form_⟩
      have CM := Lib.hid (rmay_any n _ _ wr HNI.out (Nat.le_refl _))
      obtain ⟨bm, hbm⟩ : ∃ b, Nd.may n = b := ⟨_, rfl⟩
      rw [hbm] at CM
      have HBM := Lib.hid hbm
      have HAL := Lib.hid hal
      obtain ⟨D, hD⟩ : ∃ D, ndC n Ak ck Av cv Ai ci = D := ⟨_, rfl⟩
      have HDE := Lib.hid hD
      have HSD : Hid ((Try.prog.info? 26).map (·.size) = some D.size) := by unfold Hid; rw [← hD]; exact pn_size _ _ _ _ _ _ _
      have HOD : Hid (D.all (·.oneCell') = true) := by unfold Hid; rw [← hD]; exact pn_one _ _ _ _ _ _ _
      have HZD : Hid (Z.size = D.size) := by unfold Hid; rw [← HZE.out, ← hD]; rfl
      have HRW : Hid (Rw wr W.heap.size 26 D) := by unfold Hid; rw [← hD]; exact HM.out.row
      rw [hD] at CM
      clear hbm hal hD HNI
      go_wp2_with (first
        | (refine wpList_load_row_onT (by rfl) _ _ rfl W.heap.size rfl 26 D (0, 0) _ HRW.out Try.underlying26 rfl HSD.out ?_))
      refine CM.out.mono ?_
      rintro e w7 ⟨rfl, b7⟩
      have HB7 : Hid (Below W.heap.size W w7) := HBr.out.trans (b7.mono HBr.out.size)
      have HM7 : Hid (NdMk w7 X.heap.size W.heap.size n Ak ck Av cv Ai ci) := HM.out.below_ b7
      have HRW7 : Hid (Rw w7 W.heap.size 26 D) := by unfold Hid; rw [← HDE.out]; exact HM7.out.row
      obtain ⟨-, hw1, hr1, -⟩ := HW1.out w7 HB7.out
      have HBw7 := Lib.hid hw1
      have HR7 := Lib.hid hr1
      have HLO : Hid (w.heap.size < X.heap.size) := by have := HS.out; have := HM7.out.lo; unfold Hid; omega
      clear CM b7 hw1 hr1
      cases bm
      · have HE : Hid (Nd.getE kind l = (Nd.zero, 5)) := by unfold Hid; rw [HGE.out, if_pos (.inr (of_decide_eq_false HBM.out))]
        go_wp2_with (first
          | ((with_reducible refine gate_build 26 ?_); refine wpList_build_atT rfl _ #[] rfl Z ?hf ?_; (case hf => first | exact hb0 | (rw [← hb0]; congr 1; kernel_rfl)))
          | (refine wpList_store_row rfl _ _ _ rfl w.heap.size Z rfl rfl 26 Z HR7.out HSN.out rfl HZ1.out ?_))
        exact IsNdE.ret0 rfl rfl rfl rfl (by have := HR7.out.row Z; rw [← HZE.out] at this ⊢; exact this) HE.out (below_setRow HBw7.out (Nat.le_refl _) _)
      · have HE : Hid (Nd.getE kind l = (n, 0)) := by
          unfold Hid; rw [HGE.out, if_neg]
          rintro (h | h)
          · have := HAL.out; omega
          · exact h (of_decide_eq_true HBM.out)
        go_wp2_with (first
          | (refine wpList_load_row rfl _ _ rfl W.heap.size rfl 26 D (0, 0) _ HRW7.out Try.underlying26 rfl HSD.out ?_)
          | (refine wpList_store_row rfl _ _ _ rfl w.heap.size D rfl rfl 26 Z HR7.out HSD.out HZD.out HOD.out ?_))
        rw [← HDE.out]
        exact IsNdE.made rfl rfl rfl rfl HR7.out HM7.out HLO.out HK8.out HE.out HBw7.out (Nat.le_refl _)
set_option maxHeartbeats 4000000 in
set_option maxRecDepth 100000 in
theorem rndget2_any (kind : Nat) (hk : kind = 2) (v : Value) (l : List Nat) (B : Nat) (w : World) (hv : Bv w B v l) (hB : B ≤ w.heap.size) (hsz : l.length ≤ 140737488355328) :
    Calls Try.prog 18 #[.int .u8 (kind : Nat), v] w (IsNdE (Nd.getE kind l) w) := by
  have hz := (zero_of_info nd_zero).1
  have hv9 : ∃ A c, v = .slice A l.length c := by obtain ⟨A, c, e, _⟩ := hv; exact ⟨A, c, e⟩
  obtain ⟨A0, c0, rfl⟩ := hv9
  have HBY := Lib.hid hv.lt_
  obtain ⟨W, hW⟩ : ∃ W, w.alloc (.cells ndZ 26) = W := ⟨_, rfl⟩
  have hbW : Below w.heap.size w W := by rw [← hW]; exact (Below.refl _ _).alloc (Nat.le_refl _) _
  have hrW : Rw W w.heap.size 26 ndZ := by rw [← hW]; exact Rw.new w _ _
  have hsW : W.heap.size = w.heap.size + 1 := by rw [← hW]; simp
  have HB := Lib.hid hbW
  have HR := Lib.hid hrW
  have HS := Lib.hid hsW
  have HBB := Lib.hid hB
  have HSN : Hid ((Try.prog.info? 26).map (·.size) = some ndZ.size) := by unfold Hid; kernel_rfl
  have HZ1 : Hid (ndZ.all (·.oneCell') = true) := by unfold Hid; simp [ndZ, Value.oneCell']
  have HL : Hid (l.length ≤ 140737488355328) := hsz
  have hll : l.length ≤ 9223372036854775807 := by omega
  have hb0 := nd_built0
  obtain ⟨N0, hN0⟩ : ∃ C : Array Value, #[.int .u8 (kind : Nat), .slice none 0 0, .slice none 0 0, .slice none 0 0] = C := ⟨_, rfl⟩
  have hb1 : Try.prog.built 26 [(0, .int .u8 (kind : Nat))] = some N0 := by rw [← hN0]; exact nd_built1 _
  have HS0 : Hid ((Try.prog.info? 26).map (·.size) = some N0.size) := by unfold Hid; rw [← hN0]; kernel_rfl
  have HO0 : Hid (N0.all (·.oneCell') = true) := by unfold Hid; rw [← hN0]; simp [Value.oneCell']
  have HZN : Hid (ndZ.size = N0.size) := by unfold Hid; rw [← hN0]; rfl
  obtain ⟨X, hX⟩ : ∃ X, (W.alloc (.cells ndZ 26)).setRow W.heap.size N0 = X := ⟨_, rfl⟩
  have hrx : Rw X W.heap.size 26 N0 := by rw [← hX]; exact (Rw.new W _ _).row N0
  have hbx : Below W.heap.size W X := by rw [← hX]; exact below_setRow ((Below.refl _ _).alloc (Nat.le_refl _) _) (Nat.le_refl _) _
  have HM0 : Hid (NdMk X X.heap.size W.heap.size ⟨kind, [], [], []⟩ none 0 none 0 none 0) :=
    ⟨by have := hrx; rw [← hN0] at this; exact this, hrx.lt, Nat.le_refl _, OwnL.nil_ _ _ _, OwnL.nil_ _ _ _, OwnL.nil_ _ _ _, fun k hk => by cases hk⟩
  have HBX := Lib.hid hbx
  have HV := Lib.hid (hv.below_ hbW hB)
  have HBXw : Hid (Below w.heap.size w X) := hbW.trans (hbx.mono (by omega))
  have HRX : Hid (Rw X w.heap.size 26 ndZ) := hrW.below hbx (by omega)
  have C0 := Lib.hid (rcount_any _ l B 0 6 X (HV.out.below_ hbx (by omega)) (by decide))
  have HW1 : Hid (∀ (T : World), Below W.heap.size W T → Bv T B (.slice A0 l.length c0) l ∧ Below w.heap.size w T ∧ Rw T w.heap.size 26 ndZ ∧ B ≤ T.heap.size) := fun T hT =>
    ⟨HV.out.below_ hT (by have := HS.out; have := HBB.out; omega), HB.out.trans (hT.mono (by have := HS.out; omega)), HR.out.below hT (by have := HS.out; omega), by have := HS.out; have := HBB.out; have := hT.size; omega⟩
  clear hv hB hsz hbW hrW hsW hrx hbx hN0
  obtain ⟨Z, hZ⟩ : ∃ Z, ndZ = Z := ⟨_, rfl⟩
  have HZE := Lib.hid hZ
  rw [hZ] at hW hX HR HSN HZ1 hz hb0 HZN HRX HW1
  clear hZ
  have HKW : Hid (kind = 1 ∨ kind = 2) := by unfold Hid; omega
  have HK := Lib.hid hk
  have q1 : (((kind : Nat) : Int) != 1) = true := by rw [bne_iff_ne]; omega
  have q3 : (((kind : Nat) : Int) != 2) = false := by rw [bne_eq_false_iff_eq]; omega
  have q2 : (((kind : Nat) : Int) == 2) = true := by rw [beq_iff_eq]; omega
  obtain ⟨⟨cn, a0, e0⟩, hc0⟩ : ∃ r, Mt.count l 0 6 = r := ⟨_, rfl⟩
  have HC0 := Lib.hid hc0
  rw [hc0] at C0
  clear hk hc0
  go_enter Try.func18, Try.ntmps18
  go_wp2_with (first
    | ((with_reducible refine gate_build 26 ?_); refine wpList_build_atT rfl _ #[] rfl Z ?hf ?_; (case hf => first | exact hb0 | (rw [← hb0]; congr 1; kernel_rfl)))
    | ((with_reducible refine gate_build 26 ?_); refine wpList_build_atT rfl _ #[(0, .tmp 27)] rfl N0 ?hf ?_; (case hf => first | exact hb1 | (rw [← hb1]; congr 1; kernel_rfl)))
    | (refine wpList_store_row rfl _ _ _ rfl W.heap.size N0 rfl rfl 26 Z (Rw.new W _ _) HS0.out HZN.out HO0.out ?_; rw [hX]))
  refine C0.out.mono ?_
  rintro e w1 ⟨rfl, b1⟩
  have HB1 : Hid (Below W.heap.size W w1) := HBX.out.trans (b1.mono HBX.out.size)
  have HM1 : Hid (NdMk w1 X.heap.size W.heap.size ⟨kind, [], [], []⟩ none 0 none 0 none 0) := HM0.out.below_ b1
  obtain ⟨hv1, hw1, hr1, -⟩ := HW1.out w1 HB1.out
  have HV1 := Lib.hid hv1
  have HBw1 := Lib.hid hw1
  have HR1 := Lib.hid hr1
  clear C0 b1 hv1 hw1 hr1 HM0 hX hW HBX HBXw HRX HR
  simp only
  by_cases he0 : e0 = 0
  rotate_left
  · have qe : ((e0 : Int) != 0) = true := by rw [bne_iff_ne]; omega
    have HE : Hid (Nd.getE kind l = (Nd.zero, e0)) := Nd.getE_bad HKW.out he0 0 (Nat.zero_le _) ((Nd.start_bad (by rw [HC0.out]; exact he0)).trans (by rw [HC0.out]))
    clear he0
    go_wp2_with (first
      | ((with_reducible refine gate_build 26 ?_); refine wpList_build_atT rfl _ #[] rfl Z ?hf ?_; (case hf => first | exact hb0 | (rw [← hb0]; congr 1; kernel_rfl)))
      | (refine wpList_store_row rfl _ _ _ rfl w.heap.size Z rfl rfl 26 Z HR1.out HSN.out rfl HZ1.out ?_))
    exact IsNdE.ret0 rfl rfl rfl rfl (by have := HR1.out.row Z; rw [← HZE.out] at this ⊢; exact this) HE.out (below_setRow HBw1.out (Nat.le_refl _) _)
  subst he0
  have hca := Nd.count_at HBY.out (a := 0) (most := 6) (by rw [HC0.out])
  rw [HC0.out] at hca
  obtain ⟨hal0, hcn⟩ := hca
  have hcn : cn ≤ 6 := by simp only at hcn; omega
  have hal0 : a0 ≤ l.length := hal0
  have HAL0 := Lib.hid hal0
  clear hal0
  obtain ⟨⟨x1, a1, e1⟩, hc1⟩ : ∃ r, Mt.count l (a0 : Int) 65535 = r := ⟨_, rfl⟩
  have HC1 := Lib.hid hc1
  have C1 := Lib.hid (rcount_any _ l B (a0 : Int) 65535 w1 HV1.out (by decide))
  rw [hc1] at C1
  clear hc1
  go_wp2_with fail
  refine C1.out.mono ?_
  rintro e w2 ⟨rfl, b2⟩
  have HB2 : Hid (Below W.heap.size W w2) := HB1.out.trans (b2.mono HB1.out.size)
  have HM2 : Hid (NdMk w2 X.heap.size W.heap.size ⟨kind, [], [], []⟩ none 0 none 0 none 0) := HM1.out.below_ b2
  obtain ⟨hv1, hw1, hr1, -⟩ := HW1.out w2 HB2.out
  have HV2 := Lib.hid hv1
  have HBw2 := Lib.hid hw1
  have HR2 := Lib.hid hr1
  clear C1 b2 hv1 hw1 hr1 HM1 HB1 HV1 HBw1 HR1
  simp only
  by_cases he1 : e1 = 0
  rotate_left
  · have qe : ((e1 : Int) != 0) = true := by rw [bne_iff_ne]; omega
    have HE : Hid (Nd.getE kind l = (Nd.zero, e1)) := Nd.getE_bad HKW.out he1 0 (Nat.zero_le _) ((Nd.start_innerBad HK.out HC0.out (by rw [HC1.out]; exact he1)).trans (by rw [HC1.out]))
    clear he1
    go_wp2_with (first
      | ((with_reducible refine gate_build 26 ?_); refine wpList_build_atT rfl _ #[] rfl Z ?hf ?_; (case hf => first | exact hb0 | (rw [← hb0]; congr 1; kernel_rfl)))
      | (refine wpList_store_row rfl _ _ _ rfl w.heap.size Z rfl rfl 26 Z HR2.out HSN.out rfl HZ1.out ?_))
    exact IsNdE.ret0 rfl rfl rfl rfl (by have := HR2.out.row Z; rw [← HZE.out] at this ⊢; exact this) HE.out (below_setRow HBw2.out (Nat.le_refl _) _)
  subst he1
  have HST := Lib.hid (Nd.start_inner HK.out HC0.out HC1.out)
  have HCN := Lib.hid HST.out.2
  have hca := Nd.count_at HBY.out (a := (a0 : Int)) (most := 65535) (by rw [HC1.out])
  rw [HC1.out] at hca
  have HAL1 : Hid (a1 ≤ l.length) := hca.1
  have hx1 : x1 ≤ 65535 := by have := hca.2; simp only at this; omega
  have hok1 : iK.ok (x1 : Int) := by show I64 _; unfold I64; omega
  obtain ⟨n0, Ak0, ck0, Av0, cv0, Ai0, ci0, hn0, hm0⟩ : ∃ (n : Nd.Node) (Ak : Option Addr) (ck : Nat) (Av : Option Addr) (cv : Nat) (Ai : Option Addr) (ci : Nat), n = ⟨kind, [], [], []⟩ ∧ NdMk w2 X.heap.size W.heap.size n Ak ck Av cv Ai ci := ⟨_, none, 0, none, 0, none, 0, rfl, HM2.out⟩
  have HN2 := Lib.hid hn0
  have HM3 := Lib.hid hm0
  have HLN : Hid (n0.kids.length ≤ 20) := by unfold Hid; rw [hn0]; simp
  have HLP : Hid (Nd.loopE l (Nd.startE kind l) 0 = (⟨n0.kind, n0.keys, n0.vals, n0.kids ++ [(x1 : Int)]⟩, a1, 0)) := by unfold Hid; rw [hn0]; exact HST.out.1
  obtain ⟨m0, m1, m2, m3⟩ := HM3.out.cells
  clear hca hn0 hm0 HM2
  go_wp2_with (at_builtin; go_must (refine wpList_push_m _ iK rfl _ _ rfl X.heap.size (.slice Ai0 n0.kids.length ci0) rfl n0.kids HM3.out.kids rfl (x1 : Int) hok1 _ rfl _ rfl (by show (_ + 1) * 8 ≤ _; have := HLN.out; omega) (by have := HLN.out; simp only [maxLen]; omega) HM3.out.top ?_); intro As cs w3 hA hG hM; have hr3 := HM3.out.grown_row (fun k hk => (HM3.out.kids.lt_ k hk).1) hG; have zs := hr3.frozen 3; have ys : w3.cell? ⟨W.heap.size, 3, none⟩ = some (.slice Ai0 n0.kids.length ci0) := hr3.cell 3; have HMs := Lib.hid (HM3.out.kid (x := (x1 : Int)) hA hG); have HBs := Lib.hid (HB2.out.trans (grown_below hG (fun k hk => (HM3.out.kids.lt_ k hk).1) HM3.out.top HM3.out.lo (.slice As (n0.kids.length + 1) cs) (off := 3))); obtain ⟨Ws, hWs⟩ : ∃ W', w3.setCell ⟨W.heap.size, 3, none⟩ (.slice As (n0.kids.length + 1) cs) = W' := ⟨_, rfl⟩; rw [hWs] at HMs HBs; clear hA hG hM hr3)
  go_loopw [8, 13] (fun q i wr => ∃ (k a : Nat) (n : Nd.Node) (Ak : Option Addr) (ck : Nat) (Av : Option Addr) (cv : Nat) (Ai : Option Addr) (ci : Nat), k ≤ cn ∧ i = .int .i64 (k : Nat) ∧ q = .int .i64 (a : Nat) ∧ Hid (Nd.loopE l (Nd.startE kind l) k = (n, a, 0)) ∧ Hid (a ≤ l.length) ∧ Hid (NdMk wr X.heap.size W.heap.size n Ak ck Av cv Ai ci) ∧ Hid (Below W.heap.size W wr)) (fun _ i _ => cn - (intOf i).toNat)
  case atStart => exact ⟨0, a1, ⟨n0.kind, n0.keys, n0.vals, n0.kids ++ [(x1 : Int)]⟩, Ak0, ck0, Av0, cv0, As, cs, by omega, rfl, rfl, HLP.out, HAL1.out, HMs.out, HBs.out⟩
  case round =>
    obtain ⟨k, a, n, Ak, ck, Av, cv, Ai, ci, hk, rfl, rfl, HLk, HAk, HM, HBr⟩ := hrel
    obtain ⟨hv1, hw1, hr1, hB1⟩ := HW1.out wr HBr.out
    have HVr := Lib.hid hv1
    have HBwr := Lib.hid hw1
    have HRr := Lib.hid hr1
    have HBBr := Lib.hid hB1
    have HKD : Hid (n.kind = kind) := by
      have h1 := Nd.loop_kind l (Nd.startE kind l) k
      rw [HLk.out, HST.out.1] at h1
      exact h1
    have HLN : Hid (n.keys.length ≤ 20 ∧ n.vals.length ≤ 20 ∧ n.kids.length ≤ 20) := by
      have h1 := Nd.loop_len l (Nd.startE kind l) k
      rw [HLk.out, HST.out.1] at h1
      simp only [List.length_nil, List.length_singleton] at h1
      exact ⟨by omega, by omega, by omega⟩
    clear hv1 hw1 hr1 hB1 HLP
    by_cases hlt : k < cn
    · have hlti : (k : Int) < (cn : Int) := by omega
      have hjk : k + 1 ≤ (Nd.numE l (0, 0) 6).1 := by rw [HCN.out]; omega
      have HJ := Lib.hid hjk
      have hk1 : (k : Int) + 1 ≤ 9223372036854775807 := by omega
      obtain ⟨⟨bs, a2, e2⟩, hc2⟩ : ∃ r, Mt.getRow l (a : Int) 40 = r := ⟨_, rfl⟩
      have HC2 := Lib.hid hc2
      have C2 := Lib.hid (rgetRow_any _ l B (a : Int) 40 wr HBBr.out HVr.out (by decide) HL.out)
      rw [hc2] at C2
      clear hc2 hjk
      go_wp2_with fail
      refine C2.out.mono ?_
      rintro e w4 ⟨A4, c4, rfl, o4, b4⟩
      have HB4 : Hid (Below W.heap.size W w4) := HBr.out.trans (b4.mono HBr.out.size)
      have HM4 : Hid (NdMk w4 X.heap.size W.heap.size n Ak ck Av cv Ai ci) := HM.out.below_ b4
      have HO4 := Lib.hid o4.form_
      obtain ⟨hv1, hw1, hr1, hB1⟩ := HW1.out w4 HB4.out
      have HV4 := Lib.hid hv1
      have HBw4 := Lib.hid hw1
      have HR4 := Lib.hid hr1
      clear C2 b4 o4 hv1 hw1 hr1 hB1 HM HBr HVr HBwr HRr HBBr
      simp only at HO4 ⊢
      by_cases he2 : e2 = 0
      rotate_left
      · have qe : ((e2 : Int) != 0) = true := by rw [bne_iff_ne]; omega
        have HE : Hid (Nd.getE kind l = (Nd.zero, e2)) := Nd.getE_bad HKW.out he2 (k + 1) HJ.out (by
          show (Nd.stepE l (Nd.loopE l (Nd.startE kind l) k)).2.2 = _
          rw [HLk.out, Nd.step_err (by rw [HC2.out]; exact he2), HC2.out])
        clear he2
        go_wp2_with (first
          | ((with_reducible refine gate_build 26 ?_); refine wpList_build_atT rfl _ #[] rfl Z ?hf ?_; (case hf => first | exact hb0 | (rw [← hb0]; congr 1; kernel_rfl)))
          | (refine wpList_store_row rfl _ _ _ rfl w.heap.size Z rfl rfl 26 Z HR4.out HSN.out rfl HZ1.out ?_))
        exact IsNdE.ret0 rfl rfl rfl rfl (by have := HR4.out.row Z; rw [← HZE.out] at this ⊢; exact this) HE.out (below_setRow HBw4.out (Nat.le_refl _) _)
      subst he2
      have hra := Nd.row_at HBY.out (a := (a : Int)) (most := 40) (by rw [HC2.out])
      rw [HC2.out] at hra
      have HAL2 : Hid (a2 ≤ l.length) := hra.1
      have hbl : bs.length ≤ 40 := by have := hra.2; simp only at this; omega
      have hokk : sK.ok (bstr bs) := by show (bstr bs).size ≤ maxLen; rw [bstr_size]; simp only [maxLen]; omega
      have hcv := conv_bs HO4.out
      obtain ⟨m0, m1, m2, m3⟩ := HM4.out.cells
      clear hra hbl
      go_wp2_with (at_builtin; go_must (refine wpList_push_m _ sK rfl _ _ rfl X.heap.size (.slice Ak n.keys.length ck) rfl n.keys HM4.out.keys rfl (bstr bs) hokk _ rfl _ rfl (by show (_ + 1) * 16 ≤ _; have := HLN.out; omega) (by have := HLN.out; simp only [maxLen]; omega) HM4.out.top ?_); intro Ap cp w3 hA hG hM; have hr3 := HM4.out.grown_row (fun k hk => (HM4.out.keys.lt_ k hk).1) hG; have zp := hr3.frozen 1; have yp : w3.cell? ⟨W.heap.size, 1, none⟩ = some (.slice Ak n.keys.length ck) := hr3.cell 1; have HMp := Lib.hid (HM4.out.key (x := (bstr bs)) hA hG hM); have HBp := Lib.hid (HB4.out.trans (grown_below hG (fun k hk => (HM4.out.keys.lt_ k hk).1) HM4.out.top HM4.out.lo (.slice Ap (n.keys.length + 1) cp) (off := 1))); obtain ⟨Wp, hWp⟩ : ∃ W', w3.setCell ⟨W.heap.size, 1, none⟩ (.slice Ap (n.keys.length + 1) cp) = W' := ⟨_, rfl⟩; rw [hWp] at HMp HBp; clear hA hG hM hr3)
      obtain ⟨hv1, hw1, hr1, hB1⟩ := HW1.out Wp HBp.out
      have HVp := Lib.hid hv1
      have HBwp := Lib.hid hw1
      have HRp := Lib.hid hr1
      have HBBp := Lib.hid hB1
      clear hv1 hw1 hr1 hB1 hWp zp yp m0 m1 m2 m3 HM4 HB4 HO4 HV4 HBw4 HR4 hcv
      obtain ⟨⟨x3, a3, e3⟩, hc3⟩ : ∃ r, Mt.count l (a2 : Int) 65535 = r := ⟨_, rfl⟩
      have HC3 := Lib.hid hc3
      have C3 := Lib.hid (rcount_any _ l B (a2 : Int) 65535 Wp HVp.out (by decide))
      rw [hc3] at C3
      clear hc3
      have HK2 : Hid (n.kind = 2) := by unfold Hid; rw [HKD.out, HK.out]
      refine C3.out.mono ?_
      rintro e w6 ⟨rfl, b6⟩
      have HB6 : Hid (Below W.heap.size W w6) := HBp.out.trans (b6.mono HBp.out.size)
      have HM6 : Hid (NdMk w6 X.heap.size W.heap.size _ _ _ _ _ _ _) := HMp.out.below_ b6
      obtain ⟨hv1, hw1, hr1, hB1⟩ := HW1.out w6 HB6.out
      have HV6 := Lib.hid hv1
      have HBw6 := Lib.hid hw1
      have HR6 := Lib.hid hr1
      clear C3 b6 hv1 hw1 hr1 hB1 HMp HBp HVp HBwp HRp HBBp
      try clear o6
      try simp only at HO6
      simp only
      by_cases he3 : e3 = 0
      rotate_left
      · have qe : ((e3 : Int) != 0) = true := by rw [bne_iff_ne]; omega
        have HE : Hid (Nd.getE kind l = (Nd.zero, e3)) := Nd.getE_bad HKW.out he3 (k + 1) HJ.out (by
          show (Nd.stepE l (Nd.loopE l (Nd.startE kind l) k)).2.2 = _
          rw [HLk.out, Nd.step_innerErr HK2.out (by rw [HC2.out]) (by rw [HC2.out]; simp only; rw [HC3.out]; exact he3), HC2.out]
          simp only
          rw [HC3.out])
        clear he3
        go_wp2_with (first
          | ((with_reducible refine gate_build 26 ?_); refine wpList_build_atT rfl _ #[] rfl Z ?hf ?_; (case hf => first | exact hb0 | (rw [← hb0]; congr 1; kernel_rfl)))
          | (refine wpList_store_row rfl _ _ _ rfl w.heap.size Z rfl rfl 26 Z HR6.out HSN.out rfl HZ1.out ?_))
        exact IsNdE.ret0 rfl rfl rfl rfl (by have := HR6.out.row Z; rw [← HZE.out] at this ⊢; exact this) HE.out (below_setRow HBw6.out (Nat.le_refl _) _)
      subst he3
      have hra := Nd.count_at HBY.out (a := (a2 : Int)) (most := 65535) (by rw [HC3.out])
      rw [HC3.out] at hra
      have HAL3 : Hid (a3 ≤ l.length) := hra.1
      have hx3 : x3 ≤ 65535 := by have := hra.2; simp only at this; omega
      have hokk : iK.ok (x3 : Int) := by show I64 _; unfold I64; omega
      have HSE : Hid (Nd.loopE l (Nd.startE kind l) (k + 1) = (⟨n.kind, n.keys ++ [bstr bs], n.vals, n.kids ++ [(x3 : Int)]⟩, a3, 0)) := by
        show Nd.stepE l (Nd.loopE l (Nd.startE kind l) k) = _
        rw [HLk.out, Nd.step_inner HK2.out (by rw [HC2.out]) (by rw [HC2.out]; simp only; rw [HC3.out]), HC2.out]
        simp only
        rw [HC3.out]
      obtain ⟨m0, m1, m2, m3⟩ := HM6.out.cells
      clear hra hx3
      go_wp2_with (at_builtin; go_must (refine wpList_push_m _ iK rfl _ _ rfl X.heap.size (.slice Ai n.kids.length ci) rfl n.kids HM6.out.kids rfl (x3 : Int) hokk _ rfl _ rfl (by show (_ + 1) * 8 ≤ _; have := HLN.out; omega) (by have := HLN.out; simp only [maxLen]; omega) HM6.out.top ?_); intro Aq cq w3 hA hG hM; have hr3 := HM6.out.grown_row (fun k hk => (HM6.out.kids.lt_ k hk).1) hG; have zq := hr3.frozen 3; have yq : w3.cell? ⟨W.heap.size, 3, none⟩ = some (.slice Ai n.kids.length ci) := hr3.cell 3; have HMq := Lib.hid (HM6.out.kid (x := (x3 : Int)) hA hG); have HBq := Lib.hid (HB6.out.trans (grown_below hG (fun k hk => (HM6.out.kids.lt_ k hk).1) HM6.out.top HM6.out.lo (.slice Aq (n.kids.length + 1) cq) (off := 3))); obtain ⟨Wq, hWq⟩ : ∃ W', w3.setCell ⟨W.heap.size, 3, none⟩ (.slice Aq (n.kids.length + 1) cq) = W' := ⟨_, rfl⟩; rw [hWq] at HMq HBq; clear hA hG hM hr3)
      go_roundw
      case rel => exact ⟨k + 1, a3, ⟨n.kind, n.keys ++ [bstr bs], n.vals, n.kids ++ [(x3 : Int)]⟩, Ap, cp, Av, cv, Aq, cq, by omega, by go_num, rfl, HSE.out, HAL3.out, HMq.out, HBq.out⟩
      case measure => simp [intOf]; omega
    · have ek : k = cn := by omega
      subst ek
      have hlt2 : ¬ (k : Int) < (k : Int) := by omega
      have HRD : Hid (Nd.readE kind l = (n, a, 0)) := by unfold Hid Nd.readE; rw [HCN.out]; exact HLk.out
      have HGE : Hid (Nd.getE kind l = if a < l.length ∨ ¬ Nd.Right n 6 6 then (Nd.zero, 5) else (n, 0)) := Nd.getE_end HKW.out HRD.out
      clear hlt hk
      by_cases hal : a = l.length
      rotate_left
      · have qn : ((a : Int) != (l.length : Int)) = true := by rw [bne_iff_ne]; omega
        have HE : Hid (Nd.getE kind l = (Nd.zero, 5)) := by unfold Hid; rw [HGE.out, if_pos (.inl (by have := HAk.out; omega))]
        clear hal
        go_wp2_with (first
          | ((with_reducible refine gate_build 26 ?_); refine wpList_build_atT rfl _ #[] rfl Z ?hf ?_; (case hf => first | exact hb0 | (rw [← hb0]; congr 1; kernel_rfl)))
          | (refine wpList_store_row rfl _ _ _ rfl w.heap.size Z rfl rfl 26 Z HRr.out HSN.out rfl HZ1.out ?_))
        exact IsNdE.ret0 rfl rfl rfl rfl (by have := HRr.out.row Z; rw [← HZE.out] at this ⊢; exact this) HE.out (below_setRow HBwr.out (Nat.le_refl _) _)
      have qn : ((a : Int) != (l.length : Int)) = false := by rw [bne_eq_false_iff_eq]; omega
      have HK8 : Hid (n.kind < 256) := by unfold Hid; rw [HKD.out]; have := HKW.out; omega
      have HNI : Hid (NdIs wr wr.heap.size (.agg (ndC n Ak ck Av cv Ai ci)) n) := ⟨Ak, ck, Av, cv, Ai, ci, rfl, HK8.out, HM.out.keys.form_, HM.out.vals.form_, HM.out.kids.form_⟩
      have CM := Lib.hid (rmay_any n _ _ wr HNI.out (Nat.le_refl _))
      obtain ⟨bm, hbm⟩ : ∃ b, Nd.may n = b := ⟨_, rfl⟩
      rw [hbm] at CM
      have HBM := Lib.hid hbm
      have HAL := Lib.hid hal
      obtain ⟨D, hD⟩ : ∃ D, ndC n Ak ck Av cv Ai ci = D := ⟨_, rfl⟩
      have HDE := Lib.hid hD
      have HSD : Hid ((Try.prog.info? 26).map (·.size) = some D.size) := by unfold Hid; rw [← hD]; exact pn_size _ _ _ _ _ _ _
      have HOD : Hid (D.all (·.oneCell') = true) := by unfold Hid; rw [← hD]; exact pn_one _ _ _ _ _ _ _
      have HZD : Hid (Z.size = D.size) := by unfold Hid; rw [← HZE.out, ← hD]; rfl
      have HRW : Hid (Rw wr W.heap.size 26 D) := by unfold Hid; rw [← hD]; exact HM.out.row
      rw [hD] at CM
      clear hbm hal hD HNI
      go_wp2_with (first
        | (refine wpList_load_row_onT (by rfl) _ _ rfl W.heap.size rfl 26 D (0, 0) _ HRW.out Try.underlying26 rfl HSD.out ?_))
      refine CM.out.mono ?_
      rintro e w7 ⟨rfl, b7⟩
      have HB7 : Hid (Below W.heap.size W w7) := HBr.out.trans (b7.mono HBr.out.size)
      have HM7 : Hid (NdMk w7 X.heap.size W.heap.size n Ak ck Av cv Ai ci) := HM.out.below_ b7
      have HRW7 : Hid (Rw w7 W.heap.size 26 D) := by unfold Hid; rw [← HDE.out]; exact HM7.out.row
      obtain ⟨-, hw1, hr1, -⟩ := HW1.out w7 HB7.out
      have HBw7 := Lib.hid hw1
      have HR7 := Lib.hid hr1
      have HLO : Hid (w.heap.size < X.heap.size) := by have := HS.out; have := HM7.out.lo; unfold Hid; omega
      clear CM b7 hw1 hr1
      cases bm
      · have HE : Hid (Nd.getE kind l = (Nd.zero, 5)) := by unfold Hid; rw [HGE.out, if_pos (.inr (of_decide_eq_false HBM.out))]
        go_wp2_with (first
          | ((with_reducible refine gate_build 26 ?_); refine wpList_build_atT rfl _ #[] rfl Z ?hf ?_; (case hf => first | exact hb0 | (rw [← hb0]; congr 1; kernel_rfl)))
          | (refine wpList_store_row rfl _ _ _ rfl w.heap.size Z rfl rfl 26 Z HR7.out HSN.out rfl HZ1.out ?_))
        exact IsNdE.ret0 rfl rfl rfl rfl (by have := HR7.out.row Z; rw [← HZE.out] at this ⊢; exact this) HE.out (below_setRow HBw7.out (Nat.le_refl _) _)
      · have HE : Hid (Nd.getE kind l = (n, 0)) := by
          unfold Hid; rw [HGE.out, if_neg]
          rintro (h | h)
          · have := HAL.out; omega
          · exact h (of_decide_eq_true HBM.out)
        go_wp2_with (first
          | (refine wpList_load_row rfl _ _ rfl W.heap.size rfl 26 D (0, 0) _ HRW7.out Try.underlying26 rfl HSD.out ?_)
          | (refine wpList_store_row rfl _ _ _ rfl w.heap.size D rfl rfl 26 Z HR7.out HSD.out HZD.out HOD.out ?_))
        rw [← HDE.out]
        exact IsNdE.made rfl rfl rfl rfl HR7.out HM7.out HLO.out HK8.out HE.out HBw7.out (Nat.le_refl _)
end Go.Proofs.Ytlefkaoibokjdaa
