/-
  RBpB: stookref10.Begin, joined.
  RVoFi: stookref08.Find.
  RBpC: stookref10.step (printed by wip/tools/laws/bpstep.py).
-/
import Derived.Test.YtaedhccmdbodlaaPk07
import Derived.Test.YtaedhccmdbodlaaPk08
import Derived.Test.YtaedhccmdbodlaaPk05
import Derived.BigQuiet
import Derived.Deep.RegionHeld3
namespace Go.Proofs.Ytaedhccmdbodlaa
open Go.RowKit
set_option linter.unusedVariables false

set_option maxHeartbeats 2000000 in
theorem rbegin_any (P : List Vo.Pc) (v : Value) (l : List Nat) (u : Value) (B : Nat) (w : World) (hv : Lv pK w B v P) (hu : Lv yK w B u l) (hB : B ≤ w.heap.size) :
    Calls Try.prog 16 #[.agg #[v], u] w (IsLE iK (Bp.beginE P l) w) := by
  obtain ⟨W, hW⟩ : ∃ W, w.alloc (.cells #[v] 24) = W := ⟨_, rfl⟩
  obtain ⟨d0, hsz, hb⟩ := boxed hW
  have hbs := hb.size
  have HM := Lib.hid (rmay_voc P v B W (hv.below_ hb hB) (Nat.le_trans hB hb.size))
  have HV := Lib.hid hv
  have HU := Lib.hid hu
  have HB0 := Lib.hid hb
  have HBB := Lib.hid hB
  have HSZ := Lib.hid hsz
  obtain ⟨A, c, rfl, -, -, -, -, -⟩ := hv
  obtain ⟨A2, c2, rfl, k1, k2, -, -, -⟩ := hu
  have hll : l.length ≤ 9223372036854775807 := by simp only [maxLen] at k2; omega
  clear hb hsz hB k1 k2
  by_cases hm : Vo.May P
  · rw [decide_eq_true hm] at HM
    by_cases hbig : 4096 < l.length
    · have HX : Hid (Bp.beginE P l = ([], 3)) := by unfold Hid Bp.beginE; rw [if_pos hm, if_pos hbig]
      have hbi : (4096 : Int) < (l.length : Int) := by omega
      clear hm hbig
      go_enter Try.func16, Try.ntmps16
      go_wp2_with (fail)
      refine (HM.out).mono ?_
      rintro e w1 ⟨rfl, hb1⟩
      have HB1 := Lib.hid (HB0.out.trans (hb1.mono HB0.out.size))
      clear hb1 HM
      go_wp2
      go_ret2
      exact IsLE.none_b HX.out rfl HB1.out
    · have HX : Hid (Bp.beginE P l = (Bp.beginL P l, 0)) := by unfold Hid Bp.beginE; rw [if_pos hm, if_neg hbig]
      have hbi : ¬ (4096 : Int) < (l.length : Int) := by omega
      have hle := (Vo.may_iff.1 hm).1
      have hok : ∀ q ∈ P, q.byte < 256 := fun q hq => (HV.out.ok_ q hq).1
      have HTK : Hid (∀ c, c < 256 → (Bp.toks P)[c]? = some ((Vo.tokenOf P c : Nat) : Int)) := fun c hc => Bp.toks_at hm hok hc
      have HTL : Hid (∀ c, c < 256 → Vo.tokenOf P c < P.length) := fun c hc => Vo.tokenOf_lt hm hok hc
      have HTo : Hid (∀ w', Below w.heap.size w w' → Calls Try.prog 37 #[.agg #[.slice A P.length c]] w' (IsL1 iK (Bp.toks P) w')) := fun w' hb => rtokens_any P _ B w' (HV.out.below_ hb HBB.out) (Nat.le_trans HBB.out hb.size) hle
      have hln : l.length ≤ 4096 := by omega
      clear hm hok hbig
      go_enter Try.func16, Try.ntmps16
      go_wp2_with (fail)
      refine (HM.out).mono ?_
      rintro e w1 ⟨rfl, hb1⟩
      have HB1 := Lib.hid (HB0.out.trans (hb1.mono HB0.out.size))
      have d1 : w1.cell? ⟨w.heap.size, 0, none⟩ = some (.slice A P.length c) := (hb1.cell (p := ⟨w.heap.size, 0, none⟩) (by show w.heap.size < _; have := HSZ.out; omega)).trans d0
      have HT1 := Lib.hid (HTo.out w1 HB1.out)
      clear hb1 HM HTo
      go_wp2_with (fail)
      refine (HT1.out).mono ?_
      rintro e w2 ⟨At, ct, rfl, ho, hb2⟩
      have hs2 := HB1.out.size
      have HB2 := Lib.hid (HB1.out.trans (hb2.mono hs2))
      have hs3 := HB2.out.size
      have HT2 := Lib.hid (show Lv iK w2 w2.heap.size _ _ from ho.form_)
      have h256 := Bp.toks_len P
      obtain ⟨tk, htk⟩ : ∃ t, Bp.toks P = t := ⟨_, rfl⟩
      rw [htk] at HT2 HTK h256 ⊢
      rw [h256] at HT2 ⊢
      obtain ⟨z, hz⟩ : ∃ z, w2.heap.size = z := ⟨_, rfl⟩
      have HZ := Lib.hid hz
      rw [hz] at HT2 hs3
      clear ho hb2 HT1 hs2 hz htk
      go_wp2
      go_loopw [7, 8] (fun s i wr => ∃ (k : Nat) (Ak : Option Addr) (ck : Nat), k ≤ l.length ∧ i = .int .i64 k ∧ s = .slice Ak k ck ∧ Hid (OwnL iK wr z (.slice Ak k ck) (Bp.beginL P (l.take k))) ∧ Hid (Below z w2 wr)) (fun _ i _ => l.length - (intOf i).toNat)
      case atStart => exact ⟨0, none, 0, Nat.zero_le _, rfl, rfl, OwnL.nil_ _ _ _, Below.refl _ _⟩
      case round =>
        obtain ⟨k, Ak, ck, hk, rfl, rfl, HO, hbr⟩ := hrel
        clear d1
        by_cases hlt : k < l.length
        · obtain ⟨b, off, x, rfl, hbB, hx, hq, hcx⟩ := (HU.out.below_ (HB2.out.trans (hbr.out.mono hs3)) HBB.out).byte_ hlt
          have hx8 : x < 256 := hx
          have hxt := HTK.out x hx8
          have htl := HTL.out x hx8
          obtain ⟨bt, offt, y, rfl, hbt, hy, hyq, hct⟩ := (HT2.out.below_ hbr.out (Nat.le_refl _)).int_ (k := x) (by rw [h256]; exact hx8)
          have hye : y = ((Vo.tokenOf P x : Nat) : Int) := by rw [hxt] at hyq; exact (Option.some.inj hyq).symm
          have hyI : I64 y := hy
          have HBL : Hid (Bp.beginL P (l.take (k + 1)) = Bp.beginL P (l.take k) ++ [y]) := by unfold Hid Bp.beginL; rw [take_snoc hq, List.map_append, hye]; rfl
          have hki : (k : Int) < (l.length : Int) := by omega
          have hxi : (x : Int) < 256 := by omega
          have hkn : (Bp.beginL P (l.take k)).length = k := by unfold Bp.beginL; rw [List.length_map, List.length_take]; omega
          obtain ⟨bl, hbl⟩ : ∃ t, Bp.beginL P (l.take k) = t := ⟨_, rfl⟩
          rw [hbl] at HO HBL hkn
          have wk : IntKind.i64.wrap ((k : Int) + 1) = (k : Int) + 1 := by rw [IntKind.wrap_i64]; omega
          have hzr : z ≤ wr.heap.size := by have := hbr.out.size; have := HZ.out; omega
          have HKN := Lib.hid hkn
          clear hx hq hxt hyq hy hye hbB hbt hbl hkn htl
          go_wp2_with (at_builtin; go_must (refine wpList_push_m _ iK rfl _ _ rfl z _ rfl bl HO.out rfl y hyI _ rfl _ rfl (by rw [HKN.out]; show _ * 8 ≤ _; omega) (by rw [HKN.out]; simp only [maxLen]; omega) hzr ?_; rw [HKN.out]; intro A3 c3 w7 hA hG hM))
          have HBr : Hid (Below z w2 w7) := hbr.out.grown hG hzr (fun j hj => (HO.out.lt_ j hj).1)
          have HOr := Lib.hid hA
          clear hA hG hM HO hbr
          go_wp2
          go_roundw
          case rel => exact ⟨k + 1, A3, c3, hlt, by go_num, rfl, by unfold Hid; rw [HBL.out]; exact HOr.out, HBr.out⟩
          case measure => simp [intOf]; omega
        · have hkn : k = l.length := by omega
          have hki : ¬ (k : Int) < (l.length : Int) := by omega
          subst hkn
          rw [List.take_length] at HO
          have HLN : Hid ((Bp.beginL P l).length = l.length) := Bp.begin_len
          clear hlt hk
          go_wp2
          go_ret2
          exact IsLE.of HX.out (by rw [HLN.out]) rfl (HO.out.mono_ (by have := HZ.out; have := HB2.out.size; omega)) (HB2.out.trans (hbr.out.mono hs3))
  · rw [decide_eq_false hm] at HM
    have HX : Hid (Bp.beginE P l = ([], 11)) := by unfold Hid Bp.beginE; rw [if_neg hm]
    clear hm
    go_enter Try.func16, Try.ntmps16
    go_wp2_with (fail)
    refine (HM.out).mono ?_
    rintro e w1 ⟨rfl, hb1⟩
    have HB1 := Lib.hid (HB0.out.trans (hb1.mono HB0.out.size))
    clear hb1 HM
    go_wp2
    go_ret2
    exact IsLE.none_b HX.out rfl HB1.out

theorem iK_elm : Try.prog.elem iK.s = iK.e := by kernel_rfl

set_option maxHeartbeats 2000000 in
theorem rjoined_any (l : List Int) (u : Value) (x : Nat) (t : Int) (B : Nat) (w : World) (hu : Lv iK w B u l) (hB : B ≤ w.heap.size) (hx : x + 1 < l.length) (hl : l.length ≤ 4096) (ht : I64 t) :
    Calls Try.prog 43 #[u, .int .i64 (x : Nat), .int .i64 t] w (IsL1 iK (Bp.joined l x t) w) := by
  obtain ⟨A, c, rfl, k1, k2, -, -, -⟩ := id hu
  obtain ⟨y, hy⟩ : ∃ y, x + 2 = y := ⟨_, rfl⟩
  have wx : IntKind.i64.wrap ((x : Int) + 2) = (y : Int) := by rw [IntKind.wrap_i64]; omega
  obtain ⟨A', f1, f2, f3, _⟩ := cut_from iK iK_elm A l.length c y (by omega) k1
  have g1 := cut_to iK iK_elm A l.length c x (by omega)
  have g2 := cutAt_to iK iK_elm A l.length c x (by omega)
  have HF := Lib.hid (f3 _ _ _ hu)
  have htk := hu.take_ (k := x) (by omega)
  have HX : Hid (Bp.joined l x t = l.take x ++ (t :: l.drop y)) := by unfold Hid Bp.joined; rw [hy]
  obtain ⟨J, hJ⟩ : ∃ J, Bp.joined l x t = J := ⟨_, rfl⟩
  obtain ⟨p, hp⟩ : ∃ p, l.take x = p := ⟨_, rfl⟩
  obtain ⟨d, hd⟩ : ∃ d, l.drop y = d := ⟨_, rfl⟩
  have htl : p.length = x := by rw [← hp, List.length_take]; omega
  have hdl : d.length = l.length - y := by rw [← hd, List.length_drop]
  have HL : Hid (p.length + d.length ≤ 8192) := by unfold Hid; omega
  obtain ⟨dn, hdn⟩ : ∃ dn, l.length - y = dn := ⟨_, rfl⟩
  rw [hdn] at f1 f2 HF
  rw [hp] at htk
  rw [hd] at HF
  rw [hJ, hp, hd] at HX
  rw [hJ]
  have HTK := Lib.hid htk
  have HTI := Lib.hid ht
  have HBB := Lib.hid hB
  change ∀ w, (Instr.slice 28 (.slice A l.length c) none (some (.int .i64 (x : Nat))) none).run Try.prog w = _ at g1
  change ∀ w, (Instr.sliceAt 28 (.slice A l.length c) none (some (.int .i64 (x : Nat))) none).run Try.prog w = _ at g2
  change ∀ w, (Instr.slice 28 (.slice A l.length c) (some (.int .i64 (y : Nat))) none none).run Try.prog w = _ at f1
  change ∀ w, (Instr.sliceAt 28 (.slice A l.length c) (some (.int .i64 (y : Nat))) none none).run Try.prog w = _ at f2
  clear hp hd f3 htk htl hdl hdn hu ht hB hJ hy
  go_enter Try.func43, Try.ntmps43
  go_wp2_with (at_builtin; go_must (refine wpList_append_l _ iK rfl _ _ rfl w.heap.size (.slice none 0 0) rfl [] (OwnL.nil_ _ _ _) (.slice A x c) rfl B p HTK.out (by have := HL.out; show _ * 8 ≤ _; simp only [List.length_nil]; omega) (by have := HL.out; simp only [List.length_nil, maxLen]; omega) (Nat.le_refl _) ?_))
  intro A5 c5 w5 hA hG
  have HG5 := Lib.hid ((Below.refl w.heap.size w).grown hG (Nat.le_refl _) (by intro k hk; cases hk))
  have HA5 := Lib.hid hA
  clear hA hG
  go_wp2_with (at_builtin; go_must (refine wpList_push_l _ iK rfl _ _ rfl w.heap.size (.slice A5 p.length c5) rfl p HA5.out rfl t HTI.out _ rfl _ rfl (by have := HL.out; show _ * 8 ≤ _; omega) (by have := HL.out; simp only [maxLen]; omega) HG5.out.size ?_))
  intro A6 c6 w6 hA hG
  have HG6 := Lib.hid (HG5.out.grown hG HG5.out.size (fun k hk => (HA5.out.lt_ k hk).1))
  have HA6 := Lib.hid hA
  have HF6 := Lib.hid (HF.out.below_ HG6.out HBB.out)
  clear hA hG HA5 HG5
  go_wp2_with (at_builtin; go_must (refine wpList_append_l _ iK rfl _ _ rfl w.heap.size (.slice A6 (p.length + 1) c6) rfl (p ++ [t]) HA6.out _ rfl B d HF6.out (by have := HL.out; show _ * 8 ≤ _; simp; omega) (by have := HL.out; simp [maxLen]; omega) HG6.out.size ?_))
  intro A7 c7 w7 hA hG
  have HG7 := Lib.hid (HG6.out.grown hG HG6.out.size (fun k hk => (HA6.out.lt_ k hk).1))
  have e7 := HX.out
  subst e7
  go_wp2
  go_ret
  have e8 : (p ++ t :: d).length = p.length + (d.length + 1) := by rw [List.length_append, List.length_cons]
  exact ⟨A7, c7, by rw [e8]; rfl, by rw [e8]; exact hA, HG7.out⟩
end Go.Proofs.Ytaedhccmdbodlaa
namespace Go.Proofs.Ytaedhccmdbodlaa
open Go.RowKit
set_option linter.unusedVariables false

/-- A call that answers a number and a bool, and turns nothing that was there. -/
def IsFound (r : Nat × Bool) (w : World) (e : Ending) (w' : World) : Prop := e = .returned (.tuple #[.int .i64 (r.1 : Nat), .bool r.2]) ∧ Below w.heap.size w w'

set_option maxHeartbeats 2000000 in
theorem rfind_any (P : List Vo.Pc) (v : Value) (l r : Int) (B : Nat) (w : World) (hv : Lv pK w B v P) (hB : B ≤ w.heap.size) :
    Calls Try.prog 32 #[.agg #[v], .int .i64 l, .int .i64 r] w (IsFound (Vo.findE P l r) w) := by
  obtain ⟨W, hW⟩ : ∃ W, w.alloc (.cells #[v] 24) = W := ⟨_, rfl⟩
  obtain ⟨d0, hsz, hb⟩ := boxed hW
  have HB := Lib.hid hb
  have HV := Lib.hid hv
  obtain ⟨A, cc, rfl, h1, h2, _, _⟩ := hv
  have hl : P.length ≤ 9223372036854775807 := by simp only [maxLen] at h2; omega
  obtain ⟨T, hT⟩ : ∃ T, Vo.joinOf P l r = T := ⟨_, rfl⟩
  have HN : Hid (∀ k q, k < T → P[k]? = some q → (q.join && q.left == l && q.right == r) = false) := fun k q hk hq => Vo.first_not (f := fun q => q.join && q.left == l && q.right == r) (by rw [← hT] at hk; exact hk) hq
  have HI : Hid (∀ q, P[T]? = some q → (q.join && q.left == l && q.right == r) = true) := fun q hq => Vo.first_is (f := fun q => q.join && q.left == l && q.right == r) (by rw [← hT] at hq; exact hq)
  have HT : Hid (T ≤ P.length) := by rw [← hT]; exact Vo.first_le
  have HXT : Hid (T < P.length → Vo.findE P l r = (T, true)) := fun h => by rw [← hT] at h ⊢; unfold Vo.findE; rw [if_pos h]
  have HXN : Hid (¬ T < P.length → Vo.findE P l r = (0, false)) := fun h => by rw [← hT] at h; unfold Vo.findE; rw [if_neg h]
  have HSZ := Lib.hid hsz
  clear h1 h2 hb hsz hT
  go_enter Try.func32, Try.ntmps32
  go_wp2
  go_loopw [8] (fun s wr => ∃ k : Nat, k ≤ T ∧ s = .int .i64 k ∧ Below W.heap.size W wr) (fun s _ => T + 1 - (intOf s).toNat)
  case atStart => exact ⟨0, by omega, rfl, Below.refl _ _⟩
  case round =>
    obtain ⟨k, hk, rfl, hbr⟩ := hrel
    have hTl := HT.out
    have hsz := HSZ.out
    have HBw := Lib.hid (HB.out.trans (hbr.mono HB.out.size))
    have d1 : wr.cell? ⟨w.heap.size, 0, none⟩ = some (.slice A P.length cc) := (hbr.cell (p := ⟨w.heap.size, 0, none⟩) (by show w.heap.size < _; omega)).trans d0
    have HBr := Lib.hid hbr
    clear hbr d0
    by_cases hkl : k < P.length
    · obtain ⟨b, off, q, rfl, hbB, hqok, hq, q0, q1, q2, q3, q4⟩ := (HV.out.below_ HBw.out hB).piece_ hkl
      have hki : (k : Int) < (P.length : Int) := by omega
      obtain ⟨qj, qb, ql, qr, qk⟩ := q
      simp only at q0 q1 q2 q3 q4
      obtain ⟨W3, hW3⟩ : ∃ W3, wr.alloc (.cells #[.bool qj, .int .u8 (qb : Nat), .int .i64 ql, .int .i64 qr, .int .u32 (qk : Nat)] 42) = W3 := ⟨_, rfl⟩
      have HB3 : Hid (Below W.heap.size W W3) := by unfold Hid; rw [← hW3]; exact HBr.out.alloc HBr.out.size _
      have HBw3 : Hid (Below w.heap.size w W3) := by unfold Hid; rw [← hW3]; exact HBw.out.alloc HBw.out.size _
      have hcell : ∀ (j : Nat) (u : Value), #[.bool qj, .int .u8 (qb : Nat), .int .i64 ql, .int .i64 qr, .int .u32 (qk : Nat)][j]? = some u → W3.cell? ⟨wr.heap.size, j, none⟩ = some u := fun j u hj => by
        rw [← hW3, cell_of_row _ wr.heap.size j _ _ _ (heap_alloc_new wr _)]
        exact hj
      have k0 := hcell 0 _ rfl
      have k2 := hcell 2 _ rfl
      have k3 := hcell 3 _ rfl
      clear hcell
      by_cases hlt : k < T
      · have hn := HN.out k _ hlt hq
        have HK : Hid (k + 1 ≤ T) := hlt
        simp only at hn
        cases qj with
        | false =>
          clear hn hq hqok hTl hsz
          go_wp2
          go_roundw
          case rel => exact ⟨k + 1, HK.out, by go_num, HB3.out⟩
          case measure => simp [intOf]; omega
        | true =>
          by_cases e1 : ql = l
          · subst e1
            have e2 : (qr == r) = false := by simpa using hn
            clear hn hq hqok hTl hsz
            go_wp2
            go_roundw
            case rel => exact ⟨k + 1, HK.out, by go_num, HB3.out⟩
            case measure => simp [intOf]; omega
          · have e2 : (ql == l) = false := by rw [beq_eq_false_iff_ne]; exact e1
            clear hn hq hqok hTl hsz e1
            go_wp2
            go_roundw
            case rel => exact ⟨k + 1, HK.out, by go_num, HB3.out⟩
            case measure => simp [intOf]; omega
      · obtain rfl : k = T := by omega
        have hn := HI.out _ hq
        simp at hn
        obtain ⟨⟨rfl, rfl⟩, rfl⟩ := hn
        have HX := Lib.hid (HXT.out hkl)
        clear hq hqok hTl hsz
        go_wp2
        go_ret2
        exact ⟨by rw [HX.out]; rfl, HBw3.out⟩
    · have HX := Lib.hid (HXN.out (by omega))
      have hki : ¬ (k : Int) < (P.length : Int) := by omega
      clear hTl hsz
      go_wp2
      go_ret2
      exact ⟨by rw [HX.out]; rfl, HBw.out⟩
end Go.Proofs.Ytaedhccmdbodlaa
namespace Go.Proofs.Ytaedhccmdbodlaa
open Go.RowKit
set_option linter.unusedVariables false

namespace Bp
open Vo (Pc joinOf findE)
/-- What step answers. -/
def pickE (P : List Pc) (l : List Int) : Nat × Int × Bool := match pick (jn P) l (l.length - 1) with | none => (0, 0, false) | some (x, t, _) => (x, t, true)
theorem find_none {P : List Pc} {x y : Int} (h : jn P x y = none) : findE P x y = (0, false) := by unfold findE; rw [if_neg (jn_none h)]
theorem find_some {P : List Pc} {x y : Int} {T r : Nat} (h : jn P x y = some ((T : Int), r)) : findE P x y = (T, true) := by
  obtain ⟨T', q, e, hq, -, -, -, -, hj⟩ := jn_some h
  have : T = T' := by omega
  subst this
  unfold findE
  rw [hj, if_pos (List.getElem?_eq_some_iff.1 hq).1]
/-- What pick tells is a piece. -/
theorem pick_piece {P : List Pc} {l : List Int} {k x r : Nat} {t : Int} (h : pick (jn P) l k = some (x, t, r)) : ∃ (T : Nat) (q : Pc), t = (T : Int) ∧ P[T]? = some q ∧ q.rank = r := by
  obtain ⟨_, h2, _⟩ := pick_some h
  obtain ⟨a, b, _, _, h3⟩ := cand_some h2
  obtain ⟨T, q, e, hq, -, -, -, hr, -⟩ := jn_some h3
  exact ⟨T, q, e, hq, hr⟩
theorem pick_off {P : List Pc} {l : List Int} {k : Nat} (h : cand (jn P) l k = none) : pick (jn P) l (k + 1) = pick (jn P) l k := by rw [pick, h]
theorem pick_first {P : List Pc} {l : List Int} {k r : Nat} {t : Int} (h : cand (jn P) l k = some (t, r)) (hp : pick (jn P) l k = none) : pick (jn P) l (k + 1) = some (k, t, r) := by rw [pick, h, hp]
theorem pick_less {P : List Pc} {l : List Int} {k r x s : Nat} {t u : Int} (h : cand (jn P) l k = some (t, r)) (hp : pick (jn P) l k = some (x, u, s)) (hr : r < s) : pick (jn P) l (k + 1) = some (k, t, r) := by rw [pick, h, hp]; simp [hr]
theorem pick_keep {P : List Pc} {l : List Int} {k r x s : Nat} {t u : Int} (h : cand (jn P) l k = some (t, r)) (hp : pick (jn P) l k = some (x, u, s)) (hr : ¬ r < s) : pick (jn P) l (k + 1) = some (x, u, s) := by rw [pick, h, hp]; simp [hr]
end Bp

/-- step's three variables. -/
def PickIs (p : Option (Nat × Int × Nat)) (a b c : Value) : Prop :=
  match p with
  | none => a = .int .i64 0 ∧ b = .int .i64 0 ∧ c = .bool false
  | some (x, t, _) => a = .int .i64 (x : Nat) ∧ b = .int .i64 t ∧ c = .bool true

theorem PickIs.off {P : List Vo.Pc} {l : List Int} {k : Nat} {a b c : Value} (h : Bp.cand (Bp.jn P) l k = none) (hp : PickIs (Bp.pick (Bp.jn P) l k) a b c) : PickIs (Bp.pick (Bp.jn P) l (k + 1)) a b c := by rw [Bp.pick_off h]; exact hp

set_option maxHeartbeats 8000000 in
set_option maxRecDepth 100000 in
theorem rstep_any (P : List Vo.Pc) (v : Value) (l : List Int) (u : Value) (B : Nat) (w : World) (hv : Lv pK w B v P) (hu : Lv iK w B u l) (hB : B ≤ w.heap.size) (hl : l.length ≤ 4096) (hP : P.length ≤ 4096) :
    Calls Try.prog 42 #[.agg #[v], u] w (fun e w' => e = .returned (.tuple #[.int .i64 ((Bp.pickE P l).1 : Nat), .int .i64 (Bp.pickE P l).2.1, .bool (Bp.pickE P l).2.2]) ∧ Below w.heap.size w w') := by
  obtain ⟨W, hW⟩ : ∃ W, w.alloc (.cells #[v] 24) = W := ⟨_, rfl⟩
  obtain ⟨d0, hsz, hb⟩ := boxed hW
  have HV := Lib.hid hv
  have HU := Lib.hid hu
  have HB0 := Lib.hid hb
  have HBB := Lib.hid hB
  have HSZ := Lib.hid hsz
  obtain ⟨A, c, rfl, -, -, -, -, -⟩ := hv
  obtain ⟨A2, c2, rfl, k1, k2, -, -, -⟩ := hu
  have HF : Hid (∀ (x y : Int) w', Below w.heap.size w w' → Calls Try.prog 32 #[.agg #[.slice A P.length c], .int .i64 x, .int .i64 y] w' (IsFound (Vo.findE P x y) w')) := fun x y w' hb => rfind_any P _ x y B w' (HV.out.below_ hb HBB.out) (Nat.le_trans HBB.out hb.size)
  have HPE : Hid (Bp.pickE P l = match Bp.pick (Bp.jn P) l (l.length - 1) with | none => (0, 0, false) | some (x, t, _) => (x, t, true)) := rfl
  obtain ⟨pe, hpe⟩ : ∃ p, Bp.pickE P l = p := ⟨_, rfl⟩
  rw [hpe] at HPE ⊢
  have HBX : Hid (∀ w', Below W.heap.size W w' → w'.cell? ⟨w.heap.size, 0, none⟩ = some (.slice A P.length c)) := fun w' hb => (hb.cell (p := ⟨w.heap.size, 0, none⟩) (by show w.heap.size < _; omega)).trans d0
  have HWW : Hid (∀ w', Below W.heap.size W w' → Below w.heap.size w w') := fun w' hb' => HB0.out.trans (hb'.mono (by omega))
  clear hb hsz hB k1 k2 hpe d0
  go_enter Try.func42, Try.ntmps42
  go_wp2
  go_loopw [7, 8, 9, 10, 11, 12] (fun xa xb xc i _ _ wr => ∃ (k : Nat) (ya yb yc : Value), xa = ya ∧ xb = yb ∧ xc = yc ∧ (k = 0 ∨ k + 1 ≤ l.length) ∧ i = .int .i64 k ∧ Hid (PickIs (Bp.pick (Bp.jn P) l k) ya yb yc) ∧ Hid (Below W.heap.size W wr)) (fun _ _ _ i _ _ _ => l.length - (intOf i).toNat)
  case atStart => exact ⟨0, _, _, _, rfl, rfl, rfl, .inl rfl, rfl, ⟨rfl, rfl, rfl⟩, Below.refl _ _⟩
  case round =>
    obtain ⟨k, xa, xb, xc, rfl, rfl, rfl, hk, rfl, HPK, hbr⟩ := hrel
    have wk : IntKind.i64.wrap ((k : Int) + 1) = (k : Int) + 1 := by rw [IntKind.wrap_i64]; omega
    by_cases hlt : k + 1 < l.length
    · have hki : (k : Int) + 1 < (l.length : Int) := by omega
      have hk0 : (0 : Int) ≤ (k : Int) := by omega
      have hk1 : (k : Int) < (l.length : Int) := by omega
      have hk2 : (0 : Int) ≤ (k : Int) + 1 := by omega
      have hk3 : ((k : Int) + 1).toNat = k + 1 := by omega
      obtain ⟨b2, o2, x, rfl, hb2, hx, hqx, hcx⟩ := HU.out.int_ (k := k) (by omega)
      obtain ⟨b2', o2', y, e2, hb2', hy, hqy, hcy⟩ := HU.out.int_ (k := k + 1) hlt
      injection e2 with e2
      injection e2 with e3 e4
      subst e3 e4
      have hcd := Bp.cand_of (J := Bp.jn P) hqx hqy
      have HBd : Hid (Below W.heap.size W wr.drew) := hbr.out.drew
      have HC0 := HF.out x y wr.drew (HWW.out _ HBd.out)
      have HCX : Hid (∀ w', Below w.heap.size w w' → w'.cell? ⟨b2, o2 + k, none⟩ = some (.int .i64 x) ∧ w'.cell? ⟨b2, o2 + (k + 1), none⟩ = some (.int .i64 y)) := fun w' hb => ⟨(hb.cell (p := ⟨b2, o2 + k, none⟩) (by show b2 < _; have := HBB.out; omega)).trans hcx, (hb.cell (p := ⟨b2, o2 + (k + 1), none⟩) (by show b2 < _; have := HBB.out; omega)).trans hcy⟩
      have s0 : wr.drew.cell? ⟨w.heap.size, 0, none⟩ = some (.slice A P.length c) ∧ wr.drew.cell? ⟨b2, o2 + k, none⟩ = some (.int .i64 x) ∧ wr.drew.cell? ⟨b2, o2 + (k + 1), none⟩ = some (.int .i64 y) := ⟨HBX.out _ HBd.out, HCX.out _ (HWW.out _ HBd.out)⟩
      have HK1 : Hid (k + 1 ≤ l.length ∧ k + 1 < l.length) := ⟨by omega, hlt⟩
      clear hx hy hqx hqy hcx hcy hb2 hb2' hlt hk hbr
      cases hj : Bp.jn P x y with
      | none =>
        rw [hj] at hcd
        rw [Bp.find_none hj] at HC0
        have HC1 : Hid (Calls Try.prog 32 #[.agg #[.slice A P.length c], .int .i64 x, .int .i64 y] wr.drew (fun e w' => e = .returned (.tuple #[.int .i64 0, .bool false]) ∧ Below wr.drew.heap.size wr.drew w')) := HC0
        have HP2 := Lib.hid (PickIs.off hcd HPK.out)
        clear HC0 hj hcd HPK
        go_wp2
        go_region_held3 (fun w' => w'.cell? ⟨w.heap.size, 0, none⟩ = some (.slice A P.length c) ∧ w'.cell? ⟨b2, o2 + k, none⟩ = some (.int .i64 x) ∧ w'.cell? ⟨b2, o2 + (k + 1), none⟩ = some (.int .i64 y))
          (first | exact s0 | exact s1)
          (first | (go_at_call 32; (with_reducible refine HC1.out.mono ?_); rintro en w3 ⟨rfl, hb3⟩; have HBn := Lib.hid (HBd.out.trans (hb3.mono HBd.out.size)); have s1 := (⟨HBX.out w3 HBn.out, HCX.out w3 (HWW.out w3 HBn.out)⟩ : w3.cell? ⟨w.heap.size, 0, none⟩ = some (.slice A P.length c) ∧ w3.cell? ⟨b2, o2 + k, none⟩ = some (.int .i64 x) ∧ w3.cell? ⟨b2, o2 + (k + 1), none⟩ = some (.int .i64 y)); clear hb3))
        all_goals (
          have m0 := HBX.out w3 HBn.out
          clear s0 s1 HC1 HBd HCX HF
          go_wp2
          go_quiet (fail)
          generalize hW9 : w3.drewN _ = w9
          have HB9 : Hid (Below W.heap.size W w9) := by unfold Hid; rw [← hW9]; exact below_drewN HBn.out _
          clear hW9 HBn
          go_wp2
          go_roundw
          case rel => exact ⟨k + 1, _, _, _, rfl, rfl, rfl, .inr HK1.out.2, by go_num, HP2.out, HB9.out⟩
          case measure => simp [intOf]; have := HK1.out; omega)
      | some tr =>
        obtain ⟨t, r⟩ := tr
        rw [hj] at hcd
        obtain ⟨T, q, rfl, hTq, -, -, -, rfl, -⟩ := Bp.jn_some hj
        rw [Bp.find_some hj] at HC0
        have HC1 : Hid (Calls Try.prog 32 #[.agg #[.slice A P.length c], .int .i64 x, .int .i64 y] wr.drew (fun e w' => e = .returned (.tuple #[.int .i64 (T : Nat), .bool true]) ∧ Below wr.drew.heap.size wr.drew w')) := HC0
        cases hp : Bp.pick (Bp.jn P) l k with
        | none =>
          rw [hp] at HPK
          obtain ⟨rfl, rfl, rfl⟩ := HPK.out
          have HP2 : Hid (PickIs (Bp.pick (Bp.jn P) l (k + 1)) (.int .i64 (k : Nat)) (.int .i64 (T : Nat)) (.bool true)) := by unfold Hid; rw [Bp.pick_first hcd hp]; exact ⟨rfl, rfl, rfl⟩
          clear HC0 hj hcd HPK hp hTq
          go_wp2
          go_region_held3 (fun w' => w'.cell? ⟨w.heap.size, 0, none⟩ = some (.slice A P.length c) ∧ w'.cell? ⟨b2, o2 + k, none⟩ = some (.int .i64 x) ∧ w'.cell? ⟨b2, o2 + (k + 1), none⟩ = some (.int .i64 y))
            (first | exact s0 | exact s1)
            (first | (go_at_call 32; (with_reducible refine HC1.out.mono ?_); rintro en w3 ⟨rfl, hb3⟩; have HBn := Lib.hid (HBd.out.trans (hb3.mono HBd.out.size)); have s1 := (⟨HBX.out w3 HBn.out, HCX.out w3 (HWW.out w3 HBn.out)⟩ : w3.cell? ⟨w.heap.size, 0, none⟩ = some (.slice A P.length c) ∧ w3.cell? ⟨b2, o2 + k, none⟩ = some (.int .i64 x) ∧ w3.cell? ⟨b2, o2 + (k + 1), none⟩ = some (.int .i64 y)); clear hb3))
          all_goals (
            have m0 := HBX.out w3 HBn.out
            clear s0 s1 HC1 HBd HCX HF
            go_wp2
            go_quiet (fail)
            generalize hW9 : w3.drewN _ = w9
            have HB9 : Hid (Below W.heap.size W w9) := by unfold Hid; rw [← hW9]; exact below_drewN HBn.out _
            clear hW9 HBn
            go_wp2
            go_roundw
            case rel => exact ⟨k + 1, _, _, _, rfl, rfl, rfl, .inr HK1.out.2, by go_num, HP2.out, HB9.out⟩
            case measure => simp [intOf]; have := HK1.out; omega)
        | some pk =>
          obtain ⟨x0, t0, r0⟩ := pk
          rw [hp] at HPK
          obtain ⟨rfl, rfl, rfl⟩ := HPK.out
          obtain ⟨T0, q0, rfl, hT0, rfl⟩ := Bp.pick_piece hp
          have hTl := (List.getElem?_eq_some_iff.1 hTq).1
          have hT0l := (List.getElem?_eq_some_iff.1 hT0).1
          obtain ⟨b, off, q', rfl, hbB, -, hq', -, -, -, -, c4⟩ := HV.out.piece_ hTl
          obtain ⟨b', off', q0', e5, -, -, hq0', -, -, -, -, d4⟩ := HV.out.piece_ hT0l
          injection e5 with e5
          injection e5 with e6 e7
          subst e6 e7
          rw [hTq] at hq'
          rw [hT0] at hq0'
          obtain rfl := Option.some.inj hq'
          obtain rfl := Option.some.inj hq0'
          have HR4 : Hid (∀ w', Below w.heap.size w w' → w'.cell? ⟨b, off + T * 5 + 4, none⟩ = some (.int .u32 (q.rank : Nat)) ∧ w'.cell? ⟨b, off + T0 * 5 + 4, none⟩ = some (.int .u32 (q0.rank : Nat))) := fun w' hb => ⟨(hb.cell (p := ⟨b, off + T * 5 + 4, none⟩) (by show b < _; have := HBB.out; omega)).trans c4, (hb.cell (p := ⟨b, off + T0 * 5 + 4, none⟩) (by show b < _; have := HBB.out; omega)).trans d4⟩
          have i1 : (0 : Int) ≤ (T : Int) := by omega
          have i2 : (T : Int) < (P.length : Int) := by omega
          have i3 : (0 : Int) ≤ (T0 : Int) := by omega
          have i4 : (T0 : Int) < (P.length : Int) := by omega
          obtain ⟨r, hr⟩ : ∃ r, q.rank = r := ⟨_, rfl⟩
          obtain ⟨r0, hr0⟩ : ∃ r, q0.rank = r := ⟨_, rfl⟩
          rw [hr] at HR4 hcd
          rw [hr0] at HR4 hp
          by_cases hrr : r < r0
          · have HP2 : Hid (PickIs (Bp.pick (Bp.jn P) l (k + 1)) (.int .i64 (k : Nat)) (.int .i64 (T : Nat)) (.bool true)) := by unfold Hid; rw [Bp.pick_less hcd hp hrr]; exact ⟨rfl, rfl, rfl⟩
            have hdr : (r : Int) < (r0 : Int) := by omega
            clear HC0 hj hcd HPK hp hTq hT0 hTl hT0l hbB c4 d4 hr hr0 hq' hq0' hrr
            go_wp2
            go_region_held3 (fun w' => w'.cell? ⟨w.heap.size, 0, none⟩ = some (.slice (some ⟨b, off, none⟩) P.length c) ∧ w'.cell? ⟨b2, o2 + k, none⟩ = some (.int .i64 x) ∧ w'.cell? ⟨b2, o2 + (k + 1), none⟩ = some (.int .i64 y))
              (first | exact s0 | exact s1)
              (first | (go_at_call 32; (with_reducible refine HC1.out.mono ?_); rintro en w3 ⟨rfl, hb3⟩; have HBn := Lib.hid (HBd.out.trans (hb3.mono HBd.out.size)); have s1 := (⟨HBX.out w3 HBn.out, HCX.out w3 (HWW.out w3 HBn.out)⟩ : w3.cell? ⟨w.heap.size, 0, none⟩ = some (.slice (some ⟨b, off, none⟩) P.length c) ∧ w3.cell? ⟨b2, o2 + k, none⟩ = some (.int .i64 x) ∧ w3.cell? ⟨b2, o2 + (k + 1), none⟩ = some (.int .i64 y)); clear hb3))
            all_goals (
              have m0 := HBX.out w3 HBn.out
              obtain ⟨m1, m2⟩ := HR4.out w3 (HWW.out w3 HBn.out)
              clear s0 s1 HC1 HBd HCX HF
              go_wp2
              go_quiet (fail)
              generalize hW9 : w3.drewN _ = w9
              have HB9 : Hid (Below W.heap.size W w9) := by unfold Hid; rw [← hW9]; exact below_drewN HBn.out _
              clear hW9 HBn
              go_wp2
              go_roundw
              case rel => exact ⟨k + 1, _, _, _, rfl, rfl, rfl, .inr HK1.out.2, by go_num, HP2.out, HB9.out⟩
              case measure => simp [intOf]; have := HK1.out; omega)
          · have HP2 : Hid (PickIs (Bp.pick (Bp.jn P) l (k + 1)) (.int .i64 (x0 : Nat)) (.int .i64 (T0 : Nat)) (.bool true)) := by unfold Hid; rw [Bp.pick_keep hcd hp hrr]; exact ⟨rfl, rfl, rfl⟩
            have hdr : ¬ (r : Int) < (r0 : Int) := by omega
            clear HC0 hj hcd HPK hp hTq hT0 hTl hT0l hbB c4 d4 hr hr0 hq' hq0' hrr
            go_wp2
            go_region_held3 (fun w' => w'.cell? ⟨w.heap.size, 0, none⟩ = some (.slice (some ⟨b, off, none⟩) P.length c) ∧ w'.cell? ⟨b2, o2 + k, none⟩ = some (.int .i64 x) ∧ w'.cell? ⟨b2, o2 + (k + 1), none⟩ = some (.int .i64 y))
              (first | exact s0 | exact s1)
              (first | (go_at_call 32; (with_reducible refine HC1.out.mono ?_); rintro en w3 ⟨rfl, hb3⟩; have HBn := Lib.hid (HBd.out.trans (hb3.mono HBd.out.size)); have s1 := (⟨HBX.out w3 HBn.out, HCX.out w3 (HWW.out w3 HBn.out)⟩ : w3.cell? ⟨w.heap.size, 0, none⟩ = some (.slice (some ⟨b, off, none⟩) P.length c) ∧ w3.cell? ⟨b2, o2 + k, none⟩ = some (.int .i64 x) ∧ w3.cell? ⟨b2, o2 + (k + 1), none⟩ = some (.int .i64 y)); clear hb3))
            all_goals (
              have m0 := HBX.out w3 HBn.out
              obtain ⟨m1, m2⟩ := HR4.out w3 (HWW.out w3 HBn.out)
              clear s0 s1 HC1 HBd HCX HF
              go_wp2
              go_quiet (fail)
              generalize hW9 : w3.drewN _ = w9
              have HB9 : Hid (Below W.heap.size W w9) := by unfold Hid; rw [← hW9]; exact below_drewN HBn.out _
              clear hW9 HBn
              go_wp2
              go_roundw
              case rel => exact ⟨k + 1, _, _, _, rfl, rfl, rfl, .inr HK1.out.2, by go_num, HP2.out, HB9.out⟩
              case measure => simp [intOf]; have := HK1.out; omega)
    · have hki : ¬ (k : Int) + 1 < (l.length : Int) := by omega
      have HE : Hid (l.length - 1 = k) := by unfold Hid; omega
      rw [HE.out] at HPE
      have HBF := Lib.hid (HWW.out _ hbr.out)
      clear hk hlt
      cases hp : Bp.pick (Bp.jn P) l k with
      | none =>
        rw [hp] at HPK HPE
        obtain ⟨rfl, rfl, rfl⟩ := HPK.out
        clear hp
        go_wp2
        go_ret3
        exact ⟨by rw [HPE.out]; rfl, HBF.out⟩
      | some pk =>
        obtain ⟨x0, t0, r0⟩ := pk
        rw [hp] at HPK HPE
        obtain ⟨rfl, rfl, rfl⟩ := HPK.out
        clear hp
        go_wp2
        go_ret3
        exact ⟨by rw [HPE.out]; rfl, HBF.out⟩
end Go.Proofs.Ytaedhccmdbodlaa
