/-
  RBpF: stookref10.Decode.
  BqDec: bpe.Decode.
  MpJ: A kind of maps: keys that are pairs of integers (an array of two), elements that are two integers (a struct): the joins of pairs.
  QuElP: The struct stook/bpe.pair: its things, values, which may be.
-/
import Derived.Test.YtkialijipcbgkaaPk09
import Derived.Test.YtkialijipcbgkaaPk13
import Derived.Test.YtkialijipcbgkaaPk10
import Derived.Test.YtkialijipcbgkaaPk03
namespace Go.Proofs.Ytkialijipcbgkaa
open Go.RowKit
set_option linter.unusedVariables false

namespace Bp
open Vo (Pc)
theorem textL_snoc {P : List Pc} {l : List Int} {k : Nat} {x : Int} (hq : l[k]? = some x) : textL P (l.take (k + 1)) = textL P (l.take k) ++ Vo.text P x.toNat := by
  unfold textL
  rw [take_snoc hq, List.flatMap_append]
  simp
theorem textL_le {P : List Pc} {l : List Int} (k : Nat) : (textL P (l.take k)).length ≤ (textL P l).length := by
  have h : textL P l = textL P (l.take k) ++ textL P (l.drop k) := by unfold textL; rw [← List.flatMap_append, List.take_append_drop]
  rw [h, List.length_append]; omega
end Bp

set_option maxHeartbeats 8000000 in
set_option maxRecDepth 100000 in
theorem rdecode_any (P : List Vo.Pc) (v : Value) (l : List Int) (u : Value) (B : Nat) (w : World) (hv : Lv pK w B v P) (hu : Lv iK w B u l) (hB : B ≤ w.heap.size) :
    Calls Try.prog 50 #[.agg #[v], u] w (IsLE yK (Bp.decE P l) w) := by
  obtain ⟨W, hW⟩ : ∃ W, w.alloc (.cells #[v] 41) = W := ⟨_, rfl⟩
  obtain ⟨d0, hsz, hb⟩ := boxed hW
  have HM := Lib.hid (rsizes_full P v B W (hv.below_ hb hB) (Nat.le_trans hB hb.size))
  have HV := Lib.hid hv
  have HU := Lib.hid hu
  have HB0 := Lib.hid hb
  have HBB := Lib.hid hB
  have HSZ := Lib.hid hsz
  obtain ⟨A, c, rfl, -, -, -, -, -⟩ := hv
  obtain ⟨A2, c2, rfl, k1, k2, -, -, -⟩ := hu
  have hll : l.length ≤ 9223372036854775807 := by simp only [maxLen] at k2; omega
  clear hb hsz hB k1 k2
  by_cases hm : Vo.May P
  · have hck := Vo.check_may hm
    have hg := (Vo.may_iff.1 hm).2.1
    have hle := (Vo.may_iff.1 hm).1
    have HX : Hid (Bp.decE P l = if Bp.Toks P l then (if 4096 < (Bp.textL P l).length then ([], 3) else (Bp.textL P l, 0)) else ([], 2)) := if_pos hm
    have HM1 : Hid (Calls Try.prog 67 #[.agg #[.slice A P.length c]] W (fun e w' => ∃ u, e = .returned (.tuple #[u, .int .i64 0, .int .i64 0]) ∧ Below W.heap.size W w' ∧ Lv iK w' w'.heap.size u (Vo.sizes P))) := HM.out.mono (fun e w' ⟨u, h1, h2, h3⟩ => ⟨u, by rw [hck] at h1; exact h1, h2, h3 (by rw [hck])⟩)
    have HSZT : Hid (∀ T, T < P.length → (Vo.sizes P)[T]? = some (((Vo.text P T).length : Nat) : Int) ∧ (Vo.text P T).length ≤ 256) := fun T hT => ⟨Vo.sizes_at hT, (Vo.text_size hg hT).2⟩
    have HEX : Hid (∀ (T : Nat) w', T < P.length → Below W.heap.size W w' → Calls Try.prog 77 #[.agg #[.slice A P.length c], .int .i64 (T : Int)] w' (IsLE yK (Vo.text P T, 0) w')) := fun T w' hT hb => by
      have h := rexpand_any P (.slice A P.length c) (T : Int) B w' (HV.out.below_ (HB0.out.trans (hb.mono HB0.out.size)) HBB.out) (Nat.le_trans HBB.out (HB0.out.trans (hb.mono HB0.out.size)).size) (by unfold I64; omega)
      rw [Vo.expand_in hm hT] at h
      exact h
    have HBX : Hid (∀ w', Below W.heap.size W w' → w'.cell? ⟨w.heap.size, 0, none⟩ = some (.slice A P.length c)) := fun w' hb => (hb.cell (p := ⟨w.heap.size, 0, none⟩) (by show w.heap.size < _; have := HSZ.out; omega)).trans d0
    have HWW : Hid (∀ w', Below W.heap.size W w' → Below w.heap.size w w') := fun w' hb' => HB0.out.trans (hb'.mono (by have := HSZ.out; omega))
    have hsl : (Vo.sizes P).length = P.length := Vo.sizes_len P
    obtain ⟨sz, hszs⟩ : ∃ s, Vo.sizes P = s := ⟨_, rfl⟩
    rw [hszs] at HM1 HSZT hsl
    clear HM hck hg hm hszs
    go_enter Try.func50, Try.ntmps50
    go_wp2_with (fail)
    refine (HM1.out).mono ?_
    rintro e w1 ⟨us, rfl, hb1, hsv⟩
    have HB1 := Lib.hid hb1
    obtain ⟨S0, hS0⟩ : ∃ z, w1.heap.size = z := ⟨_, rfl⟩
    rw [hS0] at hsv
    obtain ⟨As, cs, rfl, -, -, -, -, -⟩ := id hsv
    rw [hsl]
    rw [hsl] at hsv
    have HSV := Lib.hid hsv
    have HS0 := Lib.hid hS0
    clear hb1 HM1 hsv hS0
    go_wp2
    go_loopw [9] (fun i wr => ∃ k : Nat, k ≤ l.length ∧ i = .int .i64 k ∧ Hid (∀ t ∈ l.take k, 0 ≤ t ∧ t < (P.length : Int)) ∧ Hid (Below S0 w1 wr)) (fun i _ => l.length - (intOf i).toNat)
    case atStart => exact ⟨0, Nat.zero_le _, rfl, (fun t ht => by simp at ht), Below.refl _ _⟩
    case round =>
      obtain ⟨k, hk, rfl, HTk, HBr⟩ := hrel
      have HBW : Hid (Below W.heap.size W wr) := HB1.out.trans (HBr.out.mono (by have := HS0.out; have := HB1.out.size; omega))
      have e0 := HBX.out wr HBW.out
      by_cases hlt : k < l.length
      · obtain ⟨b, off, x, rfl, hbB, hx, hq, hcx⟩ := (HU.out.below_ (HWW.out _ HBW.out) HBB.out).int_ hlt
        have hki : (k : Int) < (l.length : Int) := by omega
        have hk0 : (0 : Int) ≤ (k : Int) := by omega
        have wk : IntKind.i64.wrap ((k : Int) + 1) = (k : Int) + 1 := by rw [IntKind.wrap_i64]; omega
        by_cases hbad : x < 0
        · have HF : Hid (Bp.decE P l = ([], 2)) := by unfold Hid; rw [HX.out, if_neg (Bp.toks_not hq (.inl hbad))]
          clear hq hx hbB hlt hk
          go_wp2
          go_quiet (fail)
          go_wp2
          go_ret2
          exact IsLE.none_b HF.out rfl (below_drewN (HWW.out _ HBW.out) _)
        · have hx0 : (0 : Int) ≤ x := by omega
          by_cases hbig : (P.length : Int) ≤ x
          · have HF : Hid (Bp.decE P l = ([], 2)) := by unfold Hid; rw [HX.out, if_neg (Bp.toks_not hq (.inr hbig))]
            clear hq hx hbB hlt hk
            go_wp2
            go_quiet (fail)
            go_wp2
            go_ret2
            exact IsLE.none_b HF.out rfl (below_drewN (HWW.out _ HBW.out) _)
          · have HT2 := Lib.hid (Bp.toks_step HTk.out hq ⟨hx0, by omega⟩)
            have HLT := Lib.hid hlt
            clear hq hx hbB hlt hk
            go_wp2
            go_quiet (fail)
            generalize hW9 : wr.drewN _ = w9
            have HB9 : Hid (Below S0 w1 w9) := by unfold Hid; rw [← hW9]; exact below_drewN HBr.out _
            clear hW9 e0 hcx
            go_wp2
            go_roundw
            case rel => exact ⟨k + 1, HLT.out, by go_num, HT2.out, HB9.out⟩
            case measure => simp [intOf]; have := HLT.out; omega
      · have hkn : k = l.length := by omega
        have hki : ¬ (k : Int) < (l.length : Int) := by omega
        subst hkn
        rw [List.take_length] at HTk
        have HX2 : Hid (Bp.decE P l = if 4096 < (Bp.textL P l).length then ([], 3) else (Bp.textL P l, 0)) := HX.out.trans (if_pos (show Bp.Toks P l from HTk.out))
        clear hlt hk e0 hki
        go_wp2
        go_loopw [10, 11] (fun n i ws => ∃ k : Nat, k ≤ l.length ∧ i = .int .i64 k ∧ n = .int .i64 ((Bp.textL P (l.take k)).length : Nat) ∧ Hid ((Bp.textL P (l.take k)).length ≤ 4096) ∧ ws = wr) (fun _ i _ => l.length - (intOf i).toNat)
        case atStart => exact ⟨0, Nat.zero_le _, rfl, rfl, (by unfold Hid; simp [Bp.textL]), rfl⟩
        case round =>
          obtain ⟨k, hk, rfl, rfl, HN, rfl⟩ := hrel
          by_cases hlt : k < l.length
          · obtain ⟨b, off, x, rfl, hbB, hx, hq, hcx⟩ := (HU.out.below_ (HWW.out _ HBW.out) HBB.out).int_ hlt
            have hki : (k : Int) < (l.length : Int) := by omega
            have hk0 : (0 : Int) ≤ (k : Int) := by omega
            have wk : IntKind.i64.wrap ((k : Int) + 1) = (k : Int) + 1 := by rw [IntKind.wrap_i64]; omega
            have hxr := HTk.out x (List.mem_of_getElem? hq)
            obtain ⟨T, rfl⟩ := Int.eq_ofNat_of_zero_le hxr.1
            have hT : T < P.length := by omega
            obtain ⟨hs1, hs2⟩ := HSZT.out T hT
            obtain ⟨bs, os, y, rfl, hbs, hy, hys, hcs⟩ := (HSV.out.below_ HBr.out (Nat.le_refl _)).int_ (k := T) (by rw [hsl]; exact hT)
            rw [hs1] at hys
            obtain rfl := Option.some.inj hys
            have hT0 : (0 : Int) ≤ (T : Int) := by omega
            have hT1 : (T : Int) < (P.length : Int) := by omega
            have HTX : Hid ((Bp.textL P (l.take (k + 1))).length = (Bp.textL P (l.take k)).length + (Vo.text P T).length) := by unfold Hid; rw [Bp.textL_snoc hq, List.length_append]; rfl
            have HLE := Lib.hid (Bp.textL_le (P := P) (l := l) (k + 1))
            obtain ⟨n, hn⟩ : ∃ n, (Bp.textL P (l.take k)).length = n := ⟨_, rfl⟩
            obtain ⟨m, hm⟩ : ∃ m, (Vo.text P T).length = m := ⟨_, rfl⟩
            rw [hn] at HN HTX ⊢
            rw [hm] at HTX hcs hs2
            have hnm := HN.out
            have wn : IntKind.i64.wrap ((n : Int) + (m : Int)) = (n : Int) + (m : Int) := by rw [IntKind.wrap_i64]; omega
            have HLT := Lib.hid hlt
            clear hx hq hbB hlt hk hxr hs1 hbs hy hys hn hm hT
            by_cases hov : 4096 < n + m
            · have hoi : (4096 : Int) < (n : Int) + (m : Int) := by omega
              have HF : Hid (Bp.decE P l = ([], 3)) := by unfold Hid; rw [HX2.out, if_pos (by have := HLE.out; have := HTX.out; omega)]
              clear hov
              go_wp2
              go_ret2
              exact IsLE.none_b HF.out rfl (HWW.out _ HBW.out)
            · have hoi : ¬ (4096 : Int) < (n : Int) + (m : Int) := by omega
              have HNO : Hid ((Bp.textL P (l.take (k + 1))).length ≤ 4096) := by unfold Hid; have := HTX.out; omega
              clear hov
              go_wp2
              go_roundw
              case rel => exact ⟨k + 1, HLT.out, by go_num, by rw [HTX.out]; go_num, HNO.out, trivial⟩
              case measure => simp [intOf]; have := HLT.out; omega
          · have hkn : k = l.length := by omega
            have hki : ¬ (k : Int) < (l.length : Int) := by omega
            subst hkn
            rw [List.take_length] at HN ⊢
            have HF : Hid (Bp.decE P l = (Bp.textL P l, 0)) := by unfold Hid; rw [HX2.out, if_neg (by have := HN.out; omega)]
            clear hlt hk hki
            obtain ⟨nn, hnn⟩ : ∃ n, (Bp.textL P l).length = n := ⟨_, rfl⟩
            rw [hnn]
            have HNN := Lib.hid hnn
            clear hnn
            go_wp2
            go_loopw [12, 13, 14, 15] (fun s i _ _ ws => ∃ (k : Nat) (Ak : Option Addr) (ck nk : Nat), k ≤ l.length ∧ i = .int .i64 k ∧ s = .slice Ak nk ck ∧ Hid ((Bp.textL P (l.take k)).length = nk) ∧ Hid (OwnL yK ws W.heap.size (.slice Ak nk ck) (Bp.textL P (l.take k))) ∧ Hid (Below W.heap.size W ws)) (fun _ i _ _ _ => l.length - (intOf i).toNat)
            case atStart => exact ⟨0, none, 0, 0, Nat.zero_le _, (by first | trivial | rfl), (by first | trivial | rfl), (by first | trivial | rfl | (unfold Hid; simp [Bp.textL])), OwnL.nil_ _ _ _, HBW.out⟩
            case round =>
              obtain ⟨k, Ak, ck, nk, hk, rfl, rfl, HLN, HO, HBt⟩ := hrel
              have e0 := HBX.out wr HBt.out
              clear HBW HBr
              by_cases hlt : k < l.length
              · obtain ⟨b, off, x, rfl, hbB, hx, hq, hcx⟩ := HU.out.int_ hlt
                have hki : (k : Int) < (l.length : Int) := by omega
                have hk0 : (0 : Int) ≤ (k : Int) := by omega
                have wk : IntKind.i64.wrap ((k : Int) + 1) = (k : Int) + 1 := by rw [IntKind.wrap_i64]; omega
                have hxr := HTk.out x (List.mem_of_getElem? hq)
                obtain ⟨T, rfl⟩ := Int.eq_ofNat_of_zero_le hxr.1
                have hT : T < P.length := by omega
                have hs2 := (HSZT.out T hT).2
                have HTX : Hid (Bp.textL P (l.take (k + 1)) = Bp.textL P (l.take k) ++ Vo.text P T) := by unfold Hid; rw [Bp.textL_snoc hq]; rfl
                have HLE := Lib.hid (Bp.textL_le (P := P) (l := l) k)
                have HCX : Hid (∀ w', Below W.heap.size W w' → w'.cell? ⟨b, off + k, none⟩ = some (.int .i64 (T : Int))) := fun w' hb => ((HWW.out w' hb).cell (p := ⟨b, off + k, none⟩) (by show b < _; have := HBB.out; omega)).trans hcx
                have HBd : Hid (Below W.heap.size W wr.drew) := HBt.out.drew
                have HE0 := HEX.out T wr.drew hT HBd.out
                obtain ⟨tx, htx⟩ : ∃ t, Vo.text P T = t := ⟨_, rfl⟩
                rw [htx] at HE0 HTX hs2
                have HE : Hid (Calls Try.prog 77 #[.agg #[.slice A P.length c], .int .i64 (T : Int)] wr.drew (fun e w' => ∃ A c, e = .returned (.tuple #[.slice A tx.length c, .int .i64 0]) ∧ OwnL yK w' wr.drew.heap.size (.slice A tx.length c) tx ∧ Below wr.drew.heap.size wr.drew w')) := HE0
                have s0 : wr.drew.cell? ⟨w.heap.size, 0, none⟩ = some (.slice A P.length c) ∧ wr.drew.cell? ⟨b, off + k, none⟩ = some (.int .i64 (T : Int)) := ⟨HBX.out _ HBd.out, HCX.out _ HBd.out⟩
                have HLT := Lib.hid hlt
                have HTX2 := Lib.hid (show nk ≤ 4096 ∧ tx.length ≤ 256 by have := HLE.out; have := HLN.out; have := HN.out; omega)
                have HOd : Hid (OwnL yK wr.drew W.heap.size (.slice Ak nk ck) (Bp.textL P (l.take k))) := HO.out.drew_
                obtain ⟨tk, htk⟩ : ∃ t, Bp.textL P (l.take k) = t := ⟨_, rfl⟩
                rw [htk] at HOd HTX HLN
                have HLNK := HLN.out
                clear hx hq hbB hlt hk hxr hT hs2 hcx HE0 htx htk HO HBt e0 HLE
                go_wp2
                go_region_held3 (fun w' => w'.cell? ⟨w.heap.size, 0, none⟩ = some (.slice A P.length c) ∧ w'.cell? ⟨b, off + k, none⟩ = some (.int .i64 (T : Int)))
                  (first | exact s0 | exact s1)
                  (first | (go_at_call 77; (with_reducible refine HE.out.mono ?_); rintro en w3 ⟨A3, c3, rfl, ho3, hb3⟩; have HBn := Lib.hid (HBd.out.trans (hb3.mono HBd.out.size)); have HOn := Lib.hid (HOd.out.below_ hb3 (Nat.le_refl _)); have HEn := Lib.hid ho3; have s1 := (⟨HBX.out w3 HBn.out, HCX.out w3 HBn.out⟩ : w3.cell? ⟨w.heap.size, 0, none⟩ = some (.slice A P.length c) ∧ w3.cell? ⟨b, off + k, none⟩ = some (.int .i64 (T : Int))); clear hb3 ho3))
                all_goals (
                  clear s0 s1 HE HBd HOd HCX
                  subst HLNK
                  go_wp2_with (at_builtin; go_must (refine wpList_append_m _ yK rfl _ _ rfl W.heap.size _ rfl tk HOn.out _ rfl _ tx HEn.out.form_ (by have := HTX2.out; show (_ + _) * 1 ≤ _; omega) (by have := HTX2.out; simp only [maxLen]; omega) HBn.out.size ?_; intro A4 c4 w4 hA hG hM))
                  have HB4 := Lib.hid (HBn.out.grown hG HBn.out.size (fun j hj => (HOn.out.lt_ j hj).1))
                  have HO4 := Lib.hid hA
                  clear hA hG hM HOn HEn HBn
                  go_wp2
                  go_roundw
                  case rel => exact ⟨k + 1, A4, c4, (tk ++ tx).length, HLT.out, by go_num, by simp, by unfold Hid; rw [HTX.out], by unfold Hid; rw [HTX.out]; exact HO4.out, HB4.out⟩
                  case measure => simp [intOf]; have := HLT.out; omega)
              · have hkn : k = l.length := by omega
                have hki : ¬ (k : Int) < (l.length : Int) := by omega
                subst hkn
                rw [List.take_length] at HLN HO
                clear hlt hk
                go_wp2
                go_ret2
                exact IsLE.of HF.out HLN.out.symm rfl (HO.out.mono_ (by have := HSZ.out; omega)) (HWW.out _ HBt.out)
  · obtain ⟨E, T, hck, hE⟩ := Vo.check_bad hm
    have HX : Hid (Bp.decE P l = ([], 11)) := if_neg hm
    have HM1 : Hid (Calls Try.prog 67 #[.agg #[.slice A P.length c]] W (fun e w' => ∃ u, e = .returned (.tuple #[u, .int .i64 (E : Nat), .int .i64 (T : Nat)]) ∧ Below W.heap.size W w')) := HM.out.mono (fun e w' ⟨u, h1, h2, h3⟩ => ⟨u, by rw [hck] at h1; exact h1, h2⟩)
    have hEi : ¬ ((E : Int) = 0) := by omega
    clear HM hck hm
    go_enter Try.func50, Try.ntmps50
    go_wp2_with (fail)
    refine (HM1.out).mono ?_
    rintro e w1 ⟨us, rfl, hb1⟩
    have HB1 := Lib.hid (HB0.out.trans (hb1.mono HB0.out.size))
    clear hb1 HM1
    go_wp2
    go_ret2
    exact IsLE.none_b HX.out rfl HB1.out
end Go.Proofs.Ytkialijipcbgkaa
namespace Go.Proofs.Ytkialijipcbgkaa
open Go.RowKit
set_option linter.unusedVariables false

set_option maxHeartbeats 2000000 in
set_option maxRecDepth 100000 in
theorem pdecode_all (P : List Vo.Pc) (v : Value) (l : List Int) (u : Value) (B : Nat) (w : World) (hv : Lv pK w B v P) (hu : Lv iK w B u l) (hB : B ≤ w.heap.size) :
    Calls Try.prog 49 #[.agg #[v], u] w (IsLE yK (Bp.decE P l) w) := by
  obtain ⟨W, hW⟩ : ∃ W, w.alloc (.cells #[v] 41) = W := ⟨_, rfl⟩
  obtain ⟨d0, hsz, hb⟩ := boxed hW
  have HM := Lib.hid (pmay_be P v B W (hv.below_ hb hB) (Nat.le_trans hB hb.size))
  have HV := Lib.hid hv
  have HU := Lib.hid hu
  have HB0 := Lib.hid hb
  have HBB := Lib.hid hB
  have HSZ := Lib.hid hsz
  have HA : Hid (∀ w', Below w.heap.size w w' → Calls Try.prog 75 #[.agg #[v], u] w' (IsBool (decide (Bp.Toks P l)) w')) := fun w' hb' => pare_tokens P v l u B w' (hv.below_ hb' hB) (hu.below_ hb' hB) (Nat.le_trans hB hb'.size)
  obtain ⟨A, c, rfl, -, -, -, -, -⟩ := hv
  obtain ⟨A2, c2, rfl, k1, k2, -, -, -⟩ := hu
  have hll : l.length ≤ 9223372036854775807 := by simp only [maxLen] at k2; omega
  clear hb hsz hB k1 k2
  by_cases hm : Vo.May P
  · rw [decide_eq_true hm] at HM
    have HX : Hid (Bp.decE P l = if Bp.Toks P l then (if 4096 < (Bp.textL P l).length then ([], 3) else (Bp.textL P l, 0)) else ([], 2)) := if_pos hm
    have HG : Hid (Vo.Good P) := (Vo.may_iff.1 hm).2.1
    clear hm
    by_cases ht : Bp.Toks P l
    · rw [decide_eq_true ht] at HA
      have HX2 : Hid (Bp.decE P l = if 4096 < (Bp.textL P l).length then ([], 3) else (Bp.textL P l, 0)) := HX.out.trans (if_pos ht)
      have HT := Lib.hid ht
      clear ht HX
      go_enter Try.func49, Try.ntmps49
      go_wp2_with (fail)
      refine (HM.out).mono ?_
      rintro e w1 ⟨rfl, hb1⟩
      have HB1 : Hid (Below W.heap.size W w1) := hb1
      have d1 : w1.cell? ⟨w.heap.size, 0, none⟩ = some (.slice A P.length c) := (hb1.cell (p := ⟨w.heap.size, 0, none⟩) (by show w.heap.size < _; have := HSZ.out; omega)).trans d0
      have HA1 := Lib.hid (HA.out w1 (HB0.out.trans (hb1.mono HB0.out.size)))
      clear hb1 HM HA
      go_wp2_with (fail)
      refine (HA1.out).mono ?_
      rintro e w2 ⟨rfl, hb2⟩
      have HB2 : Hid (Below W.heap.size W w2) := HB1.out.trans (hb2.mono HB1.out.size)
      clear hb2 HA1 d1
      go_wp2
      go_loopw [6, 18] (fun s i wr => ∃ (k : Nat) (Ab : Option Addr) (cb : Nat), k ≤ l.length ∧ i = .int .i64 k ∧ s = .slice Ab (Bp.textL P (l.take k)).length cb ∧ Hid (OwnL yK wr W.heap.size (.slice Ab (Bp.textL P (l.take k)).length cb) (Bp.textL P (l.take k))) ∧ Hid ((Bp.textL P (l.take k)).length ≤ 4096) ∧ Hid (Below W.heap.size W wr)) (fun _ i _ => l.length - (intOf i).toNat)
      case atStart => exact ⟨0, none, 0, Nat.zero_le _, rfl, rfl, OwnL.nil_ _ _ _, by unfold Hid; simp [Bp.textL], HB2.out⟩
      case round =>
        obtain ⟨k, Ab, cb, hk, rfl, rfl, HO, HN, HBr⟩ := hrel
        have HBw : Hid (Below w.heap.size w wr) := HB0.out.trans (HBr.out.mono (by have := HSZ.out; omega))
        by_cases hlt : k < l.length
        · obtain ⟨b, off, x, rfl, hbB, hx, hq, hcx⟩ := (HU.out.below_ HBw.out HBB.out).int_ hlt
          have hki : (k : Int) < (l.length : Int) := by omega
          have wk : IntKind.i64.wrap ((k : Int) + 1) = (k : Int) + 1 := by rw [IntKind.wrap_i64]; omega
          have e0 : wr.cell? ⟨w.heap.size, 0, none⟩ = some (.slice A P.length c) := (HBr.out.cell (p := ⟨w.heap.size, 0, none⟩) (by show w.heap.size < _; have := HSZ.out; omega)).trans d0
          have hxt := HT.out x (List.mem_of_getElem? hq)
          obtain ⟨X, rfl⟩ := Int.eq_ofNat_of_zero_le hxt.1
          have hXl : X < P.length := by omega
          have HQ : Hid (Bp.textL P (l.take (k + 1)) = Bp.textL P (l.take k) ++ Vo.text P X) := Bp.textL_snoc hq
          obtain ⟨r, hr⟩ : ∃ r, Bp.textL P (l.take (k + 1)) = r := ⟨_, rfl⟩
          have hts := (Vo.text_size HG.out hXl).2
          have HC := Lib.hid (play_tok P HG.out (.slice A P.length c) B W.heap.size X wr (.slice Ab (Bp.textL P (l.take k)).length cb) (Bp.textL P (l.take k)) r (by rw [← hr]; exact HQ.out) hXl (HV.out.below_ HBw.out HBB.out) (by have := HSZ.out; have := HBB.out; omega) HBr.out.size HO.out (by have := HN.out; omega))
          have HR := Lib.hid hr
          clear hx hq hxt hXl hts hr
          go_wp2_with (fail)
          refine (HC.out).mono ?_
          rintro e w3 ⟨A3, c3, rfl, ho3, hg3, hm3⟩
          have HO3 := Lib.hid ho3
          have HB3 : Hid (Below W.heap.size W w3) := HBr.out.grown hg3 HBr.out.size (fun j hj => (HO.out.lt_ j hj).1)
          clear ho3 hg3 hm3 HC e0 hcx
          by_cases hbig : 4096 < r.length
          · have hbi : (4096 : Int) < (r.length : Int) := by omega
            have HF : Hid (Bp.decE P l = ([], 3)) := by
              unfold Hid
              rw [HX2.out, if_pos]
              have := Bp.textL_le (P := P) (l := l) (k + 1)
              rw [HR.out] at this
              omega
            clear hbig
            go_wp2
            go_ret2
            exact IsLE.none_b HF.out rfl (HB0.out.trans (HB3.out.mono (by have := HSZ.out; omega)))
          · have hbi : ¬ (4096 : Int) < (r.length : Int) := by omega
            have HN3 : Hid (r.length ≤ 4096) := by unfold Hid; omega
            clear hbig
            go_wp2
            go_roundw
            case rel => exact ⟨k + 1, A3, c3, hlt, by go_num, by rw [HR.out], by unfold Hid; rw [HR.out]; exact HO3.out, by unfold Hid; rw [HR.out]; exact HN3.out, HB3.out⟩
            case measure => simp [intOf]; omega
        · obtain rfl : k = l.length := by omega
          have hki : ¬ ((l.length : Int) < (l.length : Int)) := by omega
          rw [List.take_length] at HO HN ⊢
          have HF : Hid (Bp.decE P l = (Bp.textL P l, 0)) := by unfold Hid; rw [HX2.out, if_neg]; have := HN.out; omega
          go_wp2
          go_ret2
          exact IsLE.of HF.out rfl rfl (HO.out.mono_ (by have := HSZ.out; omega)) HBw.out
    · rw [decide_eq_false ht] at HA
      have HX2 : Hid (Bp.decE P l = ([], 2)) := HX.out.trans (if_neg ht)
      clear ht HX
      go_enter Try.func49, Try.ntmps49
      go_wp2_with (fail)
      refine (HM.out).mono ?_
      rintro e w1 ⟨rfl, hb1⟩
      have HB1 : Hid (Below w.heap.size w w1) := HB0.out.trans (hb1.mono HB0.out.size)
      have d1 : w1.cell? ⟨w.heap.size, 0, none⟩ = some (.slice A P.length c) := (hb1.cell (p := ⟨w.heap.size, 0, none⟩) (by show w.heap.size < _; have := HSZ.out; omega)).trans d0
      have HA1 := Lib.hid (HA.out w1 HB1.out)
      clear hb1 HM HA
      go_wp2_with (fail)
      refine (HA1.out).mono ?_
      rintro e w2 ⟨rfl, hb2⟩
      have HB2 : Hid (Below w.heap.size w w2) := HB1.out.trans (hb2.mono HB1.out.size)
      clear hb2 HA1 d1
      go_wp2
      go_ret2
      exact IsLE.none_b HX2.out rfl HB2.out
  · rw [decide_eq_false hm] at HM
    have HX : Hid (Bp.decE P l = ([], 11)) := if_neg hm
    clear hm HA
    go_enter Try.func49, Try.ntmps49
    go_wp2_with (fail)
    refine (HM.out).mono ?_
    rintro e w1 ⟨rfl, hb1⟩
    have HB1 := Lib.hid (HB0.out.trans (hb1.mono HB0.out.size))
    clear hb1 HM
    go_wp2
    go_ret2
    exact IsLE.none_b HX.out rfl HB1.out
end Go.Proofs.Ytkialijipcbgkaa
namespace Go.Proofs.Ytkialijipcbgkaa
open Go.RowKit Go.Maps
set_option linter.unusedVariables false

/-- What two integers read as. -/
def readTwo (q1 q2 : IntKind) : Value → Option (DataW Unit × List MemPlace)
  | .agg cs => match cs.toList with
    | [.int a x, .int b y] => if a = q1 ∧ b = q2 then some (.agg [.lit (.int q1 x), .lit (.int q2 y)], []) else none
    | _ => none
  | _ => none
theorem readTwo_val (q1 q2 : IntKind) (x y : Int) : readTwo q1 q2 (.agg #[.int q1 x, .int q2 y]) = some (.agg [.lit (.int q1 x), .lit (.int q2 y)], []) := by simp [readTwo]
theorem readTwo_inv (q1 q2 : IntKind) (v : Value) (x y : Int) (ps : List MemPlace) (h : readTwo q1 q2 v = some (.agg [.lit (.int q1 x), .lit (.int q2 y)], ps)) : v = .agg #[.int q1 x, .int q2 y] := by
  unfold readTwo at h
  split at h
  · rename_i cs
    split at h
    · rename_i a x' b y' hc
      split at h
      · rename_i e
        obtain ⟨rfl, rfl⟩ := e
        simp at h
        obtain ⟨⟨rfl, rfl⟩, -⟩ := h
        have : cs = #[.int a x', .int b y'] := by
          apply Array.ext'
          rw [hc]
        rw [this]
      · cases h
    · cases h
  · cases h
/-- map[[2]int kind]struct of an int kind and a uint kind. -/
def mpTwo {P : Program} (t k ek e : TypeId) (qk q1 q2 : IntKind) (ht : P.underlying t = some (.map k e)) (A : WideMaps.ArrKey P k ek 2) (hek : P.underlying ek = some (.int qk)) (hsz : ∃ m, P.types.size = m + 1) (hlaw : WideMaps.KeyLaw P k) (hz : ∀ w, (zeroValue e).run P w = .ok (.agg #[.int q1 0, .int q2 0]) w) : MpK P (Int × Int) (Int × Nat) where
  t := t
  k := k
  e := e
  key := fun x => .agg #[.int qk x.1, .int qk x.2]
  lit := fun x => .string (keyBytes [.int qk x.1, .int qk x.2])
  ok := fun x => (Lit.int qk x.1).wf = true ∧ (Lit.int qk x.2).wf = true
  val := fun y => .agg #[.int q1 y.1, .int q2 (y.2 : Nat)]
  z := (0, 0)
  read := readTwo q1 q2
  dat := fun y => .agg [.lit (.int q1 y.1), .lit (.int q2 (y.2 : Nat))]
  keyed := Keyed.of_law hlaw
  under := ht
  law := fun x hx => WideMaps.keyOf_pair A hek hsz hx.1 hx.2
  inj := fun x y h => by
    injection h with h
    simp at h
    exact Prod.ext h.1 h.2
  zero := hz
  readVal := fun y => readTwo_val q1 q2 y.1 (y.2 : Nat)
  readInv := fun v y ps h => readTwo_inv q1 q2 v y.1 (y.2 : Nat) ps h
end Go.Proofs.Ytkialijipcbgkaa
namespace Go.Proofs.Ytkialijipcbgkaa
open Go.RowKit
structure Pr where
  f1 : Int
  f2 : Int
  f3 : Int
  f4 : Int
  f5 : Int
  f6 : Nat
def prV (x : Pr) : Value := .agg #[.int .i64 x.1, .int .i64 x.2, .int .i64 x.3, .int .i64 x.4, .int .i64 x.5, .int .u32 (x.6 : Nat)]
def PrOk (x : Pr) : Prop := I64 x.1 ∧ I64 x.2 ∧ I64 x.3 ∧ I64 x.4 ∧ I64 x.5 ∧ x.6 < 4294967296
end Go.Proofs.Ytkialijipcbgkaa
