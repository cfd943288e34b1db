/-
  BqMay: bpe.mayBe, areTokens.
  BqBegin: bpe.Begin.
  BqLay: bpe.lay.
  RVoDx: stookref08.bytes and Expand: the bytes of a token.
-/
import Derived.Test.YtkialijipcbgkaaPk09
import Derived.Test.YtkialijipcbgkaaPk12
import Derived.Test.YtkialijipcbgkaaPk08
import Derived.Deep.WholeRow
import Derived.Test.YtkialijipcbgkaaPk07
import Derived.Test.YtkialijipcbgkaaPk05
import Derived.Deep.RegionHeld3
import Derived.Test.YtkialijipcbgkaaPk04
namespace Go.Proofs.Ytkialijipcbgkaa
open Go.RowKit
set_option linter.unusedVariables false

set_option maxHeartbeats 1000000 in
theorem pmay_be (P : List Vo.Pc) (v : Value) (B : Nat) (w : World) (hv : Lv pK w B v P) (hB : B ≤ w.heap.size) :
    Calls Try.prog 74 #[.agg #[v]] w (IsBool (decide (Vo.May P)) w) := by
  obtain ⟨W, hW⟩ : ∃ W, w.alloc (.cells #[v] 41) = W := ⟨_, rfl⟩
  obtain ⟨d0, hsz, hb⟩ := boxed hW
  have HC := Lib.hid (pcheck_any P v B W (hv.below_ hb hB) (Nat.le_trans hB hb.size))
  have HB := Lib.hid hb
  obtain ⟨A, c, rfl, _, _, _, _⟩ := hv
  obtain ⟨E, hE⟩ : ∃ E, (Vo.check P).1 = E := ⟨_, rfl⟩
  obtain ⟨D, hD⟩ : ∃ D, (Vo.check P).2 = D := ⟨_, rfl⟩
  have HX : Hid (decide (Vo.May P) = ((E : Int) == 0)) := by
    unfold Hid
    rw [Bool.eq_iff_iff, decide_eq_true_eq, beq_iff_eq]
    unfold Vo.May
    rw [hE]
    omega
  unfold IsCheck at HC
  rw [hE, hD] at HC
  clear hsz hb hE hD
  go_enter Try.func74, Try.ntmps74
  go_wp2_with (fail)
  refine (HC.out).mono ?_
  rintro e w1 ⟨rfl, hb⟩
  have HB2 := Lib.hid (HB.out.trans (hb.mono HB.out.size))
  clear hb HC
  go_wp2
  go_ret
  exact ⟨by rw [HX.out]; rfl, HB2.out⟩

set_option maxHeartbeats 2000000 in
theorem pare_tokens (P : List Vo.Pc) (v : Value) (l : List Int) (u : Value) (B : Nat) (w : World) (hv : Lv pK w B v P) (hu : Lv iK w B u l) (hB : B ≤ w.heap.size) :
    Calls Try.prog 75 #[.agg #[v], u] w (IsBool (decide (Bp.Toks P l)) w) := by
  obtain ⟨W, hW⟩ : ∃ W, w.alloc (.cells #[v] 41) = W := ⟨_, rfl⟩
  obtain ⟨d0, hsz, hb⟩ := boxed hW
  have HV := Lib.hid hv
  have HB0 := Lib.hid hb
  have HU := Lib.hid (hu.below_ hb hB)
  obtain ⟨A, c, rfl, -, -, -, -, -⟩ := hv
  obtain ⟨A2, c2, rfl, k1, k2, -, -, -⟩ := hu
  have hll : l.length ≤ 9223372036854775807 := by simp only [maxLen] at k2; omega
  clear hb hsz hB k1 k2
  go_enter Try.func75, Try.ntmps75
  go_wp2
  go_loop [9] (fun i => ∃ k : Nat, k ≤ l.length ∧ i = .int .i64 k ∧ Hid (∀ t ∈ l.take k, 0 ≤ t ∧ t < (P.length : Int))) (fun i => l.length - (intOf i).toNat)
  case atStart => exact ⟨0, Nat.zero_le _, rfl, (fun t ht => by simp at ht)⟩
  case round =>
    obtain ⟨k, hk, rfl, HTk⟩ := hrel
    by_cases hlt : k < l.length
    · obtain ⟨b, off, x, rfl, hbB, hx, hq, hcx⟩ := HU.out.int_ hlt
      have hki : (k : Int) < (l.length : Int) := by omega
      have hk0 : (0 : Int) ≤ (k : Int) := by omega
      have wk : IntKind.i64.wrap ((k : Int) + 1) = (k : Int) + 1 := by rw [IntKind.wrap_i64]; omega
      by_cases hbad : x < 0
      · have HF : Hid (decide (Bp.Toks P l) = false) := decide_eq_false (Bp.toks_not hq (.inl hbad))
        clear hq hx hbB hlt hk
        go_wp2
        go_ret
        exact ⟨by rw [HF.out]; rfl, HB0.out⟩
      · have hx0 : (0 : Int) ≤ x := by omega
        by_cases hbig : (P.length : Int) ≤ x
        · have HF : Hid (decide (Bp.Toks P l) = false) := decide_eq_false (Bp.toks_not hq (.inr hbig))
          clear hq hx hbB hlt hk
          go_wp2
          go_ret
          exact ⟨by rw [HF.out]; rfl, HB0.out⟩
        · have HT2 := Lib.hid (Bp.toks_step HTk.out hq ⟨hx0, by omega⟩)
          have HLT := Lib.hid hlt
          clear hq hx hbB hlt hk
          go_wp2
          go_round
          case rel => exact ⟨k + 1, HLT.out, by go_num, HT2.out⟩
          case measure => simp [intOf]; have := HLT.out; omega
    · have hkn : k = l.length := by omega
      have hki : ¬ (k : Int) < (l.length : Int) := by omega
      subst hkn
      rw [List.take_length] at HTk
      have HF : Hid (decide (Bp.Toks P l) = true) := decide_eq_true (show Bp.Toks P l from HTk.out)
      clear hlt hk
      go_wp2
      go_ret
      exact ⟨by rw [HF.out]; rfl, HB0.out⟩
end Go.Proofs.Ytkialijipcbgkaa
namespace Go.Proofs.Ytkialijipcbgkaa
open Go.RowKit
set_option linter.unusedVariables false

theorem size_256 : (Try.prog.info? 107).map (·.size) = some 256 := by kernel_rfl

theorem zero_256 : Try.zeroCells107.size = 256 := by rw [zero_ints, intsC_size, List.length_replicate]

/-- The row as far as the first k bytes. -/
def begTo (P : List Vo.Pc) (b : List Nat) (k : Nat) : List Int := (Bp.beginL P b).take k ++ List.replicate (b.length - k) 0
theorem begTo_zero (P : List Vo.Pc) (b : List Nat) : begTo P b 0 = List.replicate b.length 0 := by simp [begTo]
theorem begTo_len {P : List Vo.Pc} {b : List Nat} {k : Nat} (h : k ≤ b.length) : (begTo P b k).length = b.length := by
  unfold begTo
  rw [List.length_append, List.length_take, List.length_replicate, Bp.begin_len]
  omega
theorem begTo_all (P : List Vo.Pc) (b : List Nat) : begTo P b b.length = Bp.beginL P b := by
  unfold begTo
  rw [Nat.sub_self, List.replicate_zero, List.append_nil, List.take_of_length_le (by rw [Bp.begin_len]; exact Nat.le_refl _)]
theorem begTo_set {P : List Vo.Pc} {b : List Nat} {k x : Nat} (h : b[k]? = some x) : (begTo P b k).set k ((Vo.tokenOf P x : Nat) : Int) = begTo P b (k + 1) := by
  have hk := (List.getElem?_eq_some_iff.1 h).1
  have hl : ((Bp.beginL P b).take k).length = k := by rw [List.length_take, Bp.begin_len]; omega
  have hq : (Bp.beginL P b)[k]? = some ((Vo.tokenOf P x : Nat) : Int) := by unfold Bp.beginL; rw [List.getElem?_map, h]; rfl
  have e : b.length - k = (b.length - (k + 1)) + 1 := by omega
  unfold begTo
  rw [List.set_append_right _ _ (by omega), hl, Nat.sub_self, e, List.replicate_succ, List.set_cons_zero, take_snoc hq, List.append_assoc]
  rfl

set_option maxRecDepth 100000 in
set_option maxHeartbeats 2000000 in
theorem pbegin_big (P : List Vo.Pc) (v : Value) (b : List Nat) (u : Value) (B : Nat) (w : World) (hv : Lv pK w B v P) (hu : Lv yK w B u b) (hB : B ≤ w.heap.size) :
    Calls Try.prog 60 #[.agg #[v], u] w (IsLE iK (Bp.beginE P b) w) := by
  obtain ⟨W, hW⟩ : ∃ W, w.alloc (.cells #[v] 41) = W := ⟨_, rfl⟩
  obtain ⟨d0, hsz, hb⟩ := boxed hW
  have HM := Lib.hid (pmay_be P v B W (hv.below_ hb hB) (Nat.le_trans hB hb.size))
  have HV := Lib.hid hv
  have HU := Lib.hid hu
  have HB0 := Lib.hid hb
  have HBB := Lib.hid hB
  have HSZ := Lib.hid hsz
  obtain ⟨A, c, rfl, -, -, -, -, -⟩ := hv
  obtain ⟨A2, c2, rfl, k1, k2, -, -, -⟩ := hu
  have hll : b.length ≤ 9223372036854775807 := by simp only [maxLen] at k2; omega
  clear hb hsz hB k1 k2
  by_cases hm : Vo.May P
  · rw [decide_eq_true hm] at HM
    by_cases hbig : 4096 < b.length
    · have HX : Hid (Bp.beginE P b = ([], 3)) := by unfold Hid Bp.beginE; rw [if_pos hm, if_pos hbig]
      have hbi : (4096 : Int) < (b.length : Int) := by omega
      clear hm hbig
      go_enter Try.func60, Try.ntmps60
      go_wp2_with (fail)
      refine (HM.out).mono ?_
      rintro e w1 ⟨rfl, hb1⟩
      have HB1 := Lib.hid (HB0.out.trans (hb1.mono HB0.out.size))
      clear hb1 HM
      go_wp2
      go_ret2
      exact IsLE.none_b HX.out rfl HB1.out
    · have HX : Hid (Bp.beginE P b = (Bp.beginL P b, 0)) := by unfold Hid Bp.beginE; rw [if_pos hm, if_neg hbig]
      have hbi : ¬ (4096 : Int) < (b.length : Int) := by omega
      have hbn : b.length ≤ 4096 := by omega
      have hle := (Vo.may_iff.1 hm).1
      have hok : ∀ q ∈ P, q.byte < 256 := fun q hq => (HV.out.ok_ q hq).1
      have HTK : Hid (∀ c, c < 256 → (Bp.toks P)[c]? = some ((Vo.tokenOf P c : Nat) : Int)) := fun c hc => Bp.toks_at hm hok hc
      have HTL : Hid (∀ c, c < 256 → Vo.tokenOf P c < P.length) := fun c hc => Vo.tokenOf_lt hm hok hc
      clear hm hbig hok
      go_enter Try.func60, Try.ntmps60
      go_wp2_with (fail)
      refine (HM.out).mono ?_
      rintro e w1 ⟨rfl, hb1⟩
      have HB1 := Lib.hid (HB0.out.trans (hb1.mono HB0.out.size))
      have d1 : w1.cell? ⟨w.heap.size, 0, none⟩ = some (.slice A P.length c) := (hb1.cell (p := ⟨w.heap.size, 0, none⟩) (by show w.heap.size < _; have := HSZ.out; omega)).trans d0
      have HS1 : Hid (w.heap.size + 1 ≤ w1.heap.size) := by unfold Hid; have := hb1.size; have := HSZ.out; omega
      have HT := Lib.hid (pbyte_tokens P _ B w1 (HV.out.below_ HB1.out HBB.out) (Nat.le_trans HBB.out HB1.out.size) hle)
      clear hb1 HM
      go_wp2_with (fail)
      refine (HT.out).mono ?_
      rintro e w2 ⟨rfl, hb2⟩
      have HB2 := Lib.hid (HB1.out.trans (hb2.mono HB1.out.size))
      have HS2 : Hid (w.heap.size + 1 ≤ w2.heap.size) := by unfold Hid; have := hb2.size; have := HS1.out; omega
      obtain ⟨tk, htk⟩ : ∃ tk, intsC (Bp.toks P) = tk := ⟨_, rfl⟩
      have hts : tk.size = 256 := by rw [← htk, intsC_size, Bp.toks_len]
      have hone : tk.all (·.oneCell') = true := by rw [← htk]; exact intsC_one _
      rw [htk]
      have HSI : Hid ((Try.prog.info? 107).map (·.size) = some tk.size) := by unfold Hid; rw [hts]; exact size_256
      have HSZ2 : Hid (Try.zeroCells107.size = tk.size) := by unfold Hid; rw [hts]; exact zero_256
      have HTK0 := Lib.hid htk
      clear hb2 HT htk d1
      obtain ⟨w3, hw3⟩ : ∃ w3, w2.alloc (.cells tk 107) = w3 := ⟨_, rfl⟩
      have hr3 : Rw w3 w2.heap.size 107 tk := by rw [← hw3]; exact Rw.new _ _ _
      have hb3 : Below w.heap.size w w3 := by rw [← hw3]; exact HB2.out.alloc HB2.out.size _
      have hs3 : w3.heap.size = w2.heap.size + 1 := by rw [← hw3]; simp
      have HB3 : Hid (Below w.heap.size w w3 ∧ w3.heap.size = w2.heap.size + 1) := ⟨hb3, hs3⟩
      have HR3 := Lib.hid hr3
      clear hr3 hb3 hs3
      go_wp2_with (first
        | (refine wpList_store_row rfl _ _ _ rfl w2.heap.size tk rfl rfl 107 _ (heap_alloc_new w2 _) HSI.out HSZ2.out hone ?_
           rw [World.setRow_alloc_new])
        | (at_make; go_must (refine wpList_make_l _ iK rfl _ _ rfl w.heap.size .i64 .i64 _ _ b.length b.length rfl rfl rfl rfl (Nat.le_refl _) (by show 8 * _ ≤ _; omega) (by simp only [maxLen]; omega) HB3.out.1.size ?_; intro w4 hO hG)))
      have HO4 : Hid (OwnL iK w4 w.heap.size (.slice (some ⟨w3.heap.size, 0, none⟩) b.length b.length) (begTo P b 0)) := by
        unfold Hid
        rw [begTo_zero]
        exact hO
      have HB4 : Hid (Below w3.heap.size w3 w4) := (Below.refl _ _).grown hG (Nat.le_refl _) (by intro k hk; cases hk)
      clear hO hG hw3
      go_loopw [23] (fun i wr => ∃ k : Nat, k ≤ b.length ∧ i = .int .i64 k ∧ Hid (OwnL iK wr w.heap.size (.slice (some ⟨w3.heap.size, 0, none⟩) b.length b.length) (begTo P b k)) ∧ Hid (Below w3.heap.size w3 wr)) (fun i _ => b.length - (intOf i).toNat)
      case atStart => exact ⟨0, Nat.zero_le _, rfl, HO4.out, HB4.out⟩
      case round =>
        obtain ⟨k, hk, rfl, HO, HBr⟩ := hrel
        have HBw : Hid (Below w.heap.size w wr) := HB3.out.1.trans (HBr.out.mono HB3.out.1.size)
        have wk : IntKind.i64.wrap ((k : Int) + 1) = (k : Int) + 1 := by rw [IntKind.wrap_i64]; omega
        by_cases hlt : k < b.length
        · obtain ⟨bb, off, x, rfl, hbB, hx, hq, hcx⟩ := (HU.out.below_ HBw.out HBB.out).byte_ hlt
          have hx8 : x < 256 := hx
          have hxi : (x : Int) < 256 := by omega
          have hki : (k : Int) < (b.length : Int) := by omega
          have hct : wr.cell? ⟨w2.heap.size, x, none⟩ = some (.int .i64 ((Vo.tokenOf P x : Nat) : Int)) := by
            rw [(HR3.out.below HBr.out (by have := HB3.out.2; omega)).cell, ← HTK0.out]
            exact intsC_at (HTK.out x hx8)
          have hyI : I64 ((Vo.tokenOf P x : Nat) : Int) := by have := HTL.out x hx8; unfold I64; omega
          have hkl : k < (begTo P b k).length := by rw [begTo_len hk]; exact hlt
          obtain ⟨y, _, hc2⟩ := HO.out.was_ hkl
          have hfr := HO.out.cool_ k
          obtain ⟨hs1, hg1⟩ := HO.out.setInt_ hkl hyI
          rw [begTo_set hq] at hs1
          have HS := Lib.hid hs1
          have HB5 : Hid (Below w3.heap.size w3 (wr.setCell ⟨w3.heap.size, k, none⟩ (.int .i64 ((Vo.tokenOf P x : Nat) : Int)))) := HBr.out.setCell (p := ⟨w3.heap.size, k, none⟩) (Nat.le_refl _) _
          clear hx hq hs1 hg1 hkl hyI
          go_wp2
          go_roundw
          case rel => exact ⟨k + 1, hlt, by go_num, HS.out, HB5.out⟩
          case measure => simp [intOf]; omega
        · obtain rfl : k = b.length := by omega
          have hki : ¬ ((b.length : Int) < (b.length : Int)) := by omega
          have HF := Lib.hid (begTo_all P b)
          go_wp2
          go_ret2
          refine IsLE.of HX.out (by rw [Bp.begin_len]) rfl ?_ HBw.out
          rw [← HF.out]
          exact HO.out
  · rw [decide_eq_false hm] at HM
    have HX : Hid (Bp.beginE P b = ([], 11)) := by unfold Hid Bp.beginE; rw [if_neg hm]
    clear hm
    go_enter Try.func60, Try.ntmps60
    go_wp2_with (fail)
    refine (HM.out).mono ?_
    rintro e w1 ⟨rfl, hb1⟩
    have HB1 := Lib.hid (HB0.out.trans (hb1.mono HB0.out.size))
    clear hb1 HM
    go_wp2
    go_ret2
    exact IsLE.none_b HX.out rfl HB1.out
end Go.Proofs.Ytkialijipcbgkaa
namespace Go.Proofs.Ytkialijipcbgkaa
open Go.RowKit
set_option linter.unusedVariables false

/-- What lay answers: these bytes, where u lay or in new memory. -/
theorem grown_any {w w' : World} {r : Option Nat} (h : w.grownBy w' none) : w.grownBy w' r := ⟨h.os, h.tape, h.output, h.size, fun k hk _ => h.block k hk (by simp)⟩
def IsLaid (base : Nat) (r : List Nat) (u : Value) (w : World) (e : Ending) (w' : World) : Prop :=
  ∃ A c, e = .returned (.slice A r.length c) ∧ OwnL yK w' base (.slice A r.length c) r ∧ w.grownBy w' u.ownBlock ∧ Moved w u (.slice A r.length c)
theorem grown_two {w w1 w2 : World} {u u1 u2 : Value} (h1 : w.grownBy w1 u.ownBlock) (m1 : Moved w u u1) (h2 : w1.grownBy w2 u1.ownBlock) (m2 : Moved w1 u1 u2) (hu : ∀ k, u.ownBlock = some k → k < w.heap.size) : w.grownBy w2 u.ownBlock ∧ Moved w u u2 := by
  refine ⟨⟨h2.os.trans h1.os, h2.tape.trans h1.tape, h2.output.trans h1.output, Nat.le_trans h1.size h2.size, fun k hk hne => ?_⟩, fun k hk => ?_⟩
  · refine (h2.block k (Nat.lt_of_lt_of_le hk h1.size) (fun e => ?_)).trans (h1.block k hk hne)
    rcases m1 k e.symm with h | h
    · exact hne h.symm
    · omega
  · rcases m2 k hk with h | h
    · exact m1 k h
    · exact .inr (Nat.le_trans h1.size h)

set_option maxHeartbeats 4000000 in
theorem play_tok (P : List Vo.Pc) (hg : Vo.Good P) (v : Value) (B : Nat) (base : Nat) (t : Nat) : ∀ (w : World) (u : Value) (l r : List Nat), r = l ++ Vo.text P t → t < P.length → Lv pK w B v P → B ≤ base → base ≤ w.heap.size → OwnL yK w base u l → l.length + (Vo.text P t).length ≤ 1000000 →
    Calls Try.prog 76 #[u, v, .int .i64 (t : Nat)] w (IsLaid base r u w) := by
  induction t using Nat.strongRecOn with
  | _ t ih =>
    intro w u l q hqe ht hv hBb hb hu hlen
    obtain ⟨A, c, rfl, _, _, _, _⟩ := id hv
    obtain ⟨Au, cu, rfl, _⟩ := hu.form_
    obtain ⟨b, off, p, rfl, hbB, hpok, hq, c0, c1, c2, c3, c4⟩ := hv.piece_ ht
    have hti : (t : Int) < (P.length : Int) := by omega
    obtain ⟨W, hW⟩ : ∃ W, w.alloc (.cells #[.bool p.join, .int .u8 (p.byte : Nat), .int .i64 p.left, .int .i64 p.right, .int .u32 (p.rank : Nat)] 85) = W := ⟨_, rfl⟩
    obtain ⟨⟨_, hx⟩, hbx⟩ := pboxed hW
    have x0 := hx 0 _ rfl
    have x1 := hx 1 _ rfl
    have x2 := hx 2 _ rfl
    have x3 := hx 3 _ rfl
    have HU := Lib.hid (hu.below_ hbx (Nat.le_refl _))
    have hlt := fun k hk => (hu.lt_ k hk).2
    have HG0 : Hid (w.grownBy W none) := by unfold Hid; rw [← hW]; exact World.grownBy_alloc w _ none
    have hbW : base ≤ W.heap.size := Nat.le_trans hb hbx.size
    have HVW := Lib.hid (hv.below_ (hbx.mono hb) hBb)
    have hsW : w.heap.size < W.heap.size := by rw [← hW]; simp
    have HLT := Lib.hid hlt
    clear hx hlt
    cases hj : p.join with
    | false =>
      rw [hj] at c0 hW x0
      have HX : Hid (Vo.text P t = [p.byte]) := Vo.text_byte hq hj
      have hpb : yK.ok p.byte := hpok.1
      rw [HX.out] at hlen hqe
      simp only [List.length_cons, List.length_nil, Nat.zero_add] at hlen
      have HQE := Lib.hid hqe
      clear hpok hq ih hj hv hu HX hbx hqe
      go_enter Try.func76, Try.ntmps76
      go_wp2_with (at_builtin; go_must (refine wpList_push_m _ yK rfl _ _ rfl base _ rfl l HU.out rfl p.byte hpb _ rfl _ rfl (by show _ * 1 ≤ _; omega) (by simp only [maxLen]; omega) hbW ?_; intro A3 c3 w3 hA hG hM))
      have HA := Lib.hid hA
      have HG := Lib.hid hG
      have HM := Lib.hid hM
      clear hA hG hM
      go_wp2
      go_ret
      have HQ2 : l.length + 1 = q.length := by rw [HQE.out]; simp
      rw [HQ2] at HA HM ⊢
      rw [← HQE.out] at HA
      exact ⟨A3, c3, rfl, HA.out, (grown_two (u := .slice Au l.length cu) (u1 := .slice Au l.length cu) (grown_any HG0.out) (fun k hk => .inl hk) HG.out HM.out HLT.out).1, (grown_two (u := .slice Au l.length cu) (u1 := .slice Au l.length cu) (grown_any HG0.out) (fun k hk => .inl hk) HG.out HM.out HLT.out).2⟩
    | true =>
      rw [hj] at c0 hW x0
      obtain ⟨hx, hl, hr, hl0, hr0⟩ := Vo.text_join hg hq hj
      obtain ⟨pj, pb, pl, pr, pk⟩ := p
      simp only at c0 c1 c2 c3 c4 hx hl hr hl0 hr0 hW x0 x1 x2 x3
      obtain ⟨L, rfl⟩ := Int.eq_ofNat_of_zero_le hl0
      obtain ⟨R, rfl⟩ := Int.eq_ofNat_of_zero_le hr0
      simp only [Int.toNat_natCast] at hx hl hr
      rw [hx, List.length_append] at hlen
      rw [hx, ← List.append_assoc] at hqe
      obtain ⟨q1, hq1⟩ : ∃ q1, q1 = l ++ Vo.text P L := ⟨_, rfl⟩
      rw [← hq1] at hqe
      have hq1l : q1.length = l.length + (Vo.text P L).length := by rw [hq1, List.length_append]
      have J1 := Lib.hid (ih L hl W.drew (.slice Au l.length cu) l q1 hq1 (by omega) HVW.out hBb hbW HU.out (by omega))
      have HR : Hid (∀ w' u', Below base W w' → OwnL yK w' base u' q1 → Calls Try.prog 76 #[u', .slice (some ⟨b, off, none⟩) P.length c, .int .i64 (R : Nat)] w' (IsLaid base q u' w')) := fun w' u' hb' ho' => ih R hr w' u' q1 q hqe (by omega) (HVW.out.below_ hb' hBb) hBb (Nat.le_trans hbW hb'.size) ho' (by omega)
      have HOWN := Lib.hid (fun k hk => (HU.out.lt_ k hk).1)
      have s0 : W.drew.cell? ⟨w.heap.size, 2, none⟩ = some (.int .i64 (L : Nat)) ∧ W.drew.cell? ⟨w.heap.size, 3, none⟩ = some (.int .i64 (R : Nat)) := ⟨x2, x3⟩
      have HNE : Hid (∀ w1 : World, W.drew.grownBy w1 (Value.slice Au l.length cu).ownBlock → w1.cell? ⟨w.heap.size, 2, none⟩ = some (.int .i64 (L : Nat)) ∧ w1.cell? ⟨w.heap.size, 3, none⟩ = some (.int .i64 (R : Nat))) := fun w1 g1 => by
        have hne : (Value.slice Au l.length cu).ownBlock ≠ some w.heap.size := fun e => absurd (HLT.out _ e) (Nat.lt_irrefl _)
        have e := g1.block w.heap.size hsW (fun e => hne e.symm)
        have ec : ∀ j, w1.cell? ⟨w.heap.size, j, none⟩ = W.cell? ⟨w.heap.size, j, none⟩ := fun j => by
          have e' : w1.heap[w.heap.size]? = W.heap[w.heap.size]? := e
          simp only [World.cell?, e']
        exact ⟨(ec 2).trans x2, (ec 3).trans x3⟩
      clear hpok hq ih hj hv hu hbx hx hl hr hl0 hr0 hqe hq1 hq1l
      go_enter Try.func76, Try.ntmps76
      go_wp2
      go_region_held3 (fun w' => w'.cell? ⟨w.heap.size, 2, none⟩ = some (.int .i64 (L : Nat)) ∧ w'.cell? ⟨w.heap.size, 3, none⟩ = some (.int .i64 (R : Nat))) (first | exact s0 | exact s1 | exact s2)
        (first
          | (go_at_call 76; (with_reducible refine J1.out.mono ?_); rintro e w1 ⟨A1, k1, rfl, o1, g1, m1⟩; have s1 := HNE.out w1 g1; have G1 := Lib.hid g1; have M1 := Lib.hid m1; have B1 := Lib.hid ((Below.refl base W).drew.grown g1 hbW (fun k hk => HOWN.out k hk)); have J2 := Lib.hid (HR.out w1 _ B1.out o1); clear o1 g1 m1)
          | (go_at_call 76; (with_reducible refine J2.out.mono ?_); rintro e w2 ⟨A2, k2, rfl, o2, g2, m2⟩; have s2 := HNE.out w2 (grown_two (u := .slice Au l.length cu) G1.out M1.out g2 m2 (fun k hk => Nat.lt_trans (HLT.out k hk) hsW)).1; have G2 := Lib.hid g2; have M2 := Lib.hid m2; have O2 := Lib.hid o2; clear o2 g2 m2))
      all_goals
        go_wp2
        go_ret
        have T1 := grown_two (u := .slice Au l.length cu) (u1 := .slice Au l.length cu) (grown_any HG0.out) (fun k hk => .inl hk) (show W.grownBy w1 _ from ⟨G1.out.os, G1.out.tape, G1.out.output, G1.out.size, G1.out.block⟩) M1.out HLT.out
        have T2 := grown_two (u := .slice Au l.length cu) T1.1 T1.2 G2.out M2.out HLT.out
        exact ⟨A2, k2, rfl, O2.out, T2.1, T2.2⟩

end Go.Proofs.Ytkialijipcbgkaa
namespace Go.Proofs.Ytkialijipcbgkaa
open Go.RowKit
set_option linter.unusedVariables false

set_option maxHeartbeats 2000000 in
theorem rbytes_any (P : List Vo.Pc) (hg : Vo.Good P) (v : Value) (B : Nat) (t : Nat) : ∀ (w : World), t < P.length → Lv pK w B v P → B ≤ w.heap.size →
    Calls Try.prog 99 #[.agg #[v], .int .i64 (t : Nat)] w (IsL1 yK (Vo.text P t) w) := by
  induction t using Nat.strongRecOn with
  | _ t ih =>
    intro w ht hv hB
    obtain ⟨A, c, rfl, _, _, _, _⟩ := id hv
    obtain ⟨b, off, p, rfl, hbB, hpok, hq, c0, c1, c2, c3, c4⟩ := hv.piece_ ht
    have hti : (t : Int) < (P.length : Int) := by omega
    have hbw : b < w.heap.size := by omega
    obtain ⟨pj, pb, pl, pr, pk⟩ := p
    simp only at c0 c1 c2 c3 c4
    obtain ⟨W, hW⟩ : ∃ W, (w.alloc (.cells #[.slice (some ⟨b, off, none⟩) P.length c] 41)).alloc (.cells #[.bool pj, .int .u8 (pb : Nat), .int .i64 pl, .int .i64 pr, .int .u32 (pk : Nat)] 85) = W := ⟨_, rfl⟩
    have d0 : W.cell? ⟨w.heap.size, 0, none⟩ = some (.slice (some ⟨b, off, none⟩) P.length c) := by
      rw [← hW, cell_of_row _ w.heap.size 0 _ _ _ ((heap_alloc_old _ _ (by simp)).trans (heap_alloc_new w _))]; rfl
    have hcell : ∀ (i : Nat) (u : Value), #[.bool pj, .int .u8 (pb : Nat), .int .i64 pl, .int .i64 pr, .int .u32 (pk : Nat)][i]? = some u → W.cell? ⟨w.heap.size + 1, i, none⟩ = some u := fun i u hi => by
      have e : (w.alloc (.cells #[.slice (some ⟨b, off, none⟩) P.length c] 41)).heap.size = w.heap.size + 1 := by simp
      rw [← hW, ← e, cell_of_row _ _ i _ _ _ (heap_alloc_new _ _)]
      exact hi
    have e0 := hcell 0 _ rfl
    have e1 := hcell 1 _ rfl
    have e2 := hcell 2 _ rfl
    have e3 := hcell 3 _ rfl
    have HB : Hid (Below w.heap.size w W) := by unfold Hid; rw [← hW]; exact ((Below.refl _ _).alloc (Nat.le_refl _) _).alloc (by simp) _
    have HSZ : Hid (W.heap.size = w.heap.size + 2) := by unfold Hid; rw [← hW]; simp
    clear hcell
    cases pj with
    | false =>
      have HX : Hid (Vo.text P t = [pb]) := Vo.text_byte hq rfl
      have hpb : pb < 256 := hpok.1
      clear hpok hq ih
      go_enter Try.func99, Try.ntmps99
      go_wp2
      go_ret
      rw [HX.out]
      have hs := HSZ.out
      refine ⟨some ⟨W.heap.size, 0, none⟩, 1, rfl, ⟨fun x hx => by simp at hx; subst hx; exact hpb, .inr ⟨W.heap.size, [], rfl, by omega, by simp, by simp [maxLen], heap_alloc_new W _⟩⟩, HB.out.alloc (by omega) _⟩
    | true =>
      obtain ⟨hx, hl, hr, hl0, hr0⟩ := Vo.text_join hg hq rfl
      obtain ⟨L, rfl⟩ := Int.eq_ofNat_of_zero_le hl0
      obtain ⟨R, rfl⟩ := Int.eq_ofNat_of_zero_le hr0
      simp only [Int.toNat_natCast] at hx hl hr
      have HX : Hid (Vo.text P t = Vo.text P L ++ Vo.text P R) := hx
      have hzl := Vo.text_size hg (t := L) (by omega)
      have hzr := Vo.text_size hg (t := R) (by omega)
      have HZ : Hid ((Vo.text P L).length ≤ 256 ∧ (Vo.text P R).length ≤ 256) := ⟨hzl.2, hzr.2⟩
      have HL := Lib.hid (ih L hl W (by omega) (hv.below_ HB.out hB) (Nat.le_trans hB HB.out.size))
      have HR : Hid (∀ w', Below w.heap.size w w' → Calls Try.prog 99 #[.agg #[.slice (some ⟨b, off, none⟩) P.length c], .int .i64 (R : Nat)] w' (IsL1 yK (Vo.text P R) w')) := fun w' hb => ih R hr w' (by omega) (hv.below_ hb hB) (Nat.le_trans hB hb.size)
      clear hpok hq ih hx hl0 hr0 hzl hzr hl hr
      go_enter Try.func99, Try.ntmps99
      go_wp2_with (fail)
      refine (HL.out).mono ?_
      rintro e w1 ⟨A1, k1, rfl, ho1, hb1⟩
      have HB1 := Lib.hid (HB.out.trans (hb1.mono HB.out.size))
      have HO1 := Lib.hid (ho1.mono_ HB.out.size)
      have hs := HSZ.out
      have d1 : w1.cell? ⟨w.heap.size, 0, none⟩ = some (.slice (some ⟨b, off, none⟩) P.length c) := (hb1.cell (p := ⟨w.heap.size, 0, none⟩) (by show w.heap.size < _; omega)).trans d0
      have f3 : w1.cell? ⟨w.heap.size + 1, 3, none⟩ = some (.int .i64 (R : Nat)) := (hb1.cell (p := ⟨w.heap.size + 1, 3, none⟩) (by show w.heap.size + 1 < _; omega)).trans e3
      have HR1 := Lib.hid (HR.out w1 HB1.out)
      clear ho1 hb1 HL HR d0 e0 e1 e2 e3 c0 c1 c2 c3 c4 hW hs
      go_wp2_with (fail)
      refine (HR1.out).mono ?_
      rintro e w2 ⟨A2, k2, rfl, ho2, hb2⟩
      have HB2 := Lib.hid (HB1.out.trans (hb2.mono HB1.out.size))
      have HO1b := Lib.hid (HO1.out.below_ hb2 (Nat.le_refl _))
      have HO2 := Lib.hid ho2
      have hb3 := HB2.out.size
      clear ho2 hb2 HR1 HO1 d1 f3
      go_wp2_with (at_builtin; go_must (refine wpList_append_l _ yK rfl _ _ rfl w.heap.size _ rfl (Vo.text P L) HO1b.out _ rfl w2.heap.size (Vo.text P R) HO2.out.form_ (by have := HZ.out; show (_ + _) * 1 ≤ _; omega) (by have := HZ.out; simp only [maxLen]; omega) hb3 ?_; intro A3 c3 w3 hA hG))
      have HB3 := Lib.hid (HB2.out.grown hG hb3 (fun k hk => (HO1b.out.lt_ k hk).1))
      have HA := Lib.hid hA
      clear hA hG
      go_wp2
      go_ret
      rw [HX.out]
      exact ⟨A3, c3, by rw [List.length_append]; rfl, HA.out, HB3.out⟩

set_option maxHeartbeats 2000000 in
theorem rexpand_any (P : List Vo.Pc) (v : Value) (t : Int) (B : Nat) (w : World) (hv : Lv pK w B v P) (hB : B ≤ w.heap.size) (ht : I64 t) :
    Calls Try.prog 77 #[.agg #[v], .int .i64 t] w (IsLE yK (Vo.expandE P t) w) := by
  obtain ⟨W, hW⟩ : ∃ W, w.alloc (.cells #[v] 41) = W := ⟨_, rfl⟩
  obtain ⟨d0, hsz, hb⟩ := boxed hW
  have HC := Lib.hid (rmay_voc P v B W (hv.below_ hb hB) (Nat.le_trans hB hb.size))
  have HB := Lib.hid hb
  have HV := Lib.hid hv
  have HSZ := Lib.hid hsz
  obtain ⟨A, c, rfl, h1, h2, _, _⟩ := hv
  have hl : P.length ≤ 9223372036854775807 := by simp only [maxLen] at h2; omega
  clear h1 h2 hsz hb
  by_cases hm : Vo.May P
  · rw [decide_eq_true hm] at HC
    have HG := Lib.hid (Vo.may_iff.1 hm).2.1
    by_cases hbad : t < 0 ∨ (P.length : Int) ≤ t
    · have HX : Hid (Vo.expandE P t = ([], 2)) := by unfold Hid Vo.expandE; rw [if_pos hm, if_pos hbad]
      rcases Decidable.em (t < 0) with h0 | h0
      · clear hbad hm
        go_enter Try.func77, Try.ntmps77
        go_wp2_with (fail)
        refine (HC.out).mono ?_
        rintro e w1 ⟨rfl, hb⟩
        have HB2 := Lib.hid (HB.out.trans (hb.mono HB.out.size))
        clear hb HC
        go_wp2
        go_ret2
        exact IsLE.none_b HX.out rfl HB2.out
      · have h1 : (P.length : Int) ≤ t := by omega
        clear hbad hm
        go_enter Try.func77, Try.ntmps77
        go_wp2_with (fail)
        refine (HC.out).mono ?_
        rintro e w1 ⟨rfl, hb⟩
        have HB2 := Lib.hid (HB.out.trans (hb.mono HB.out.size))
        have d1 : w1.cell? ⟨w.heap.size, 0, none⟩ = some (.slice A P.length c) := (hb.cell (p := ⟨w.heap.size, 0, none⟩) (by show w.heap.size < _; have := HSZ.out; omega)).trans d0
        clear hb HC
        go_wp2
        go_ret2
        exact IsLE.none_b HX.out rfl HB2.out
    · have HX : Hid (Vo.expandE P t = (Vo.text P t.toNat, 0)) := by unfold Hid Vo.expandE; rw [if_pos hm, if_neg hbad]
      obtain ⟨T, rfl⟩ := Int.eq_ofNat_of_zero_le (show 0 ≤ t by omega)
      rw [Int.toNat_natCast] at HX
      have HR : Hid (∀ w', Below w.heap.size w w' → Calls Try.prog 99 #[.agg #[.slice A P.length c], .int .i64 (T : Nat)] w' (IsL1 yK (Vo.text P T) w')) := fun w' hb => rbytes_any P HG.out _ B T w' (by omega) (HV.out.below_ hb hB) (Nat.le_trans hB hb.size)
      have h1 : ¬ (P.length : Int) ≤ (T : Int) := by omega
      clear hbad hm
      go_enter Try.func77, Try.ntmps77
      go_wp2_with (fail)
      refine (HC.out).mono ?_
      rintro e w1 ⟨rfl, hb⟩
      have HB2 := Lib.hid (HB.out.trans (hb.mono HB.out.size))
      have d1 : w1.cell? ⟨w.heap.size, 0, none⟩ = some (.slice A P.length c) := (hb.cell (p := ⟨w.heap.size, 0, none⟩) (by show w.heap.size < _; have := HSZ.out; omega)).trans d0
      have HR1 := Lib.hid (HR.out w1 HB2.out)
      clear hb HC HR
      go_wp2_with (fail)
      refine (HR1.out).mono ?_
      rintro e w2 ⟨A2, c2, rfl, ho, hb⟩
      have HO := Lib.hid (ho.mono_ HB2.out.size)
      have HB3 := Lib.hid (HB2.out.trans (hb.mono HB2.out.size))
      clear ho hb HR1
      go_wp2
      go_ret2
      exact IsLE.of HX.out rfl rfl HO.out HB3.out
  · rw [decide_eq_false hm] at HC
    have HX : Hid (Vo.expandE P t = ([], 11)) := by unfold Hid Vo.expandE; rw [if_neg hm]
    clear hm
    go_enter Try.func77, Try.ntmps77
    go_wp2_with (fail)
    refine (HC.out).mono ?_
    rintro e w1 ⟨rfl, hb⟩
    have HB2 := Lib.hid (HB.out.trans (hb.mono HB.out.size))
    clear hb HC
    go_wp2
    go_ret2
    exact IsLE.none_b HX.out rfl HB2.out
end Go.Proofs.Ytkialijipcbgkaa
