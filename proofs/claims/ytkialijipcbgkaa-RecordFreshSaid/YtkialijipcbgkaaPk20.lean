/-
  BqJoins: bpe.joinsOf.
  BqNew: bpe.newRow.
  BqList: bpe.row's list.
  BqEnc: bpe.Encode.
-/
import Derived.Test.YtkialijipcbgkaaPk18
import Derived.Test.YtkialijipcbgkaaPk12
import Derived.Test.YtkialijipcbgkaaPk07
import Derived.Test.YtkialijipcbgkaaPk19
import Derived.Test.YtkialijipcbgkaaPk13
namespace Go.Proofs.Ytkialijipcbgkaa
open Go.RowKit Go.Maps
set_option linter.unusedVariables false

namespace Bp
open Vo (Pc May joinOf rankAt)
/-- The joins of the first k pieces. -/
def joinTo (P : List Pc) : Nat → Int × Int → Option (Int × Nat)
  | 0, _ => none
  | k + 1, x => match P[k]? with
    | some q => if q.join = true ∧ x = (q.left, q.right) then some ((k : Int), q.rank) else joinTo P k x
    | none => joinTo P k x
theorem joinTo_eq {P : List Pc} (hg : Vo.Good P) (x : Int × Int) : ∀ k, k ≤ P.length → joinTo P k x = if joinOf P x.1 x.2 < k then some (((joinOf P x.1 x.2 : Nat) : Int), rankAt P ((joinOf P x.1 x.2 : Nat) : Int)) else none := by
  intro k
  induction k with
  | zero => intro _; rw [if_neg (by omega)]; rfl
  | succ k ih =>
    intro hk
    obtain ⟨q, hq⟩ : ∃ q, P[k]? = some q := ⟨_, List.getElem?_eq_getElem (by omega)⟩
    rw [joinTo, hq]
    simp only
    by_cases h : q.join = true ∧ x = (q.left, q.right)
    · obtain ⟨hj, rfl⟩ := h
      have e := Vo.joinOf_self hg hq hj
      rw [if_pos ⟨hj, rfl⟩]
      simp only
      rw [e, if_pos (by omega), Vo.rankAt_of hq]
    · rw [if_neg h, ih (by omega)]
      have hne : joinOf P x.1 x.2 ≠ k := fun e => by
        have hq' : P[joinOf P x.1 x.2]? = some q := by rw [e]; exact hq
        have hf := Vo.first_is (f := fun q => q.join && q.left == x.1 && q.right == x.2) hq'
        simp only [Bool.and_eq_true, beq_iff_eq] at hf
        exact h ⟨hf.1.1, Prod.ext hf.1.2.symm hf.2.symm⟩
      by_cases h2 : joinOf P x.1 x.2 < k
      · rw [if_pos h2, if_pos (by omega)]
      · rw [if_neg h2, if_neg (by omega)]
theorem joinTo_all {P : List Pc} (hg : Vo.Good P) (x : Int × Int) : joinTo P P.length x = jn P x.1 x.2 := joinTo_eq hg x _ (Nat.le_refl _)
theorem joinTo_join {P : List Pc} {k : Nat} {q : Pc} (hq : P[k]? = some q) (hj : q.join = true) : joinTo P (k + 1) = fun x => if x = (q.left, q.right) then some ((k : Int), q.rank) else joinTo P k x := by
  funext x
  rw [joinTo, hq]
  simp [hj]
theorem joinTo_byte {P : List Pc} {k : Nat} {q : Pc} (hq : P[k]? = some q) (hj : q.join = false) : joinTo P (k + 1) = joinTo P k := by
  funext x
  rw [joinTo, hq]
  simp [hj]
end Bp

set_option maxRecDepth 100000 in
set_option maxHeartbeats 2000000 in
theorem pjoins_of (P : List Vo.Pc) (v : Value) (B : Nat) (w : World) (hv : Lv pK w B v P) (hB : B ≤ w.heap.size) (hg : Vo.Good P) (hP : P.length ≤ 4096) :
    Calls Try.prog 82 #[.agg #[v]] w (fun e w' => ∃ mb, e = .returned (.map (some mb)) ∧ w.heap.size ≤ mb ∧ IsMp mpJ w' mb P.length (fun x => Bp.jn P x.1 x.2) ∧ Below w.heap.size w w') := by
  have hv0 := hv
  obtain ⟨A, c, rfl, h1, h2, _, _⟩ := hv
  have hl : P.length ≤ 9223372036854775807 := by simp only [maxLen] at h2; omega
  clear h1 h2
  obtain ⟨W, hW⟩ : ∃ W, w.alloc (.cells #[.slice A P.length c] 41) = W := ⟨_, rfl⟩
  obtain ⟨d0, hsz, hb⟩ := boxed hW
  obtain ⟨mb, hmb⟩ : ∃ mb, W.heap.size = mb := ⟨_, rfl⟩
  have HB0 := Lib.hid hb
  have HV0 := Lib.hid hv0
  have HG := Lib.hid hg
  have HBB := Lib.hid hB
  have HSZ : Hid (W.heap.size = w.heap.size + 1 ∧ W.heap.size = mb) := ⟨hsz, hmb⟩
  have hm1 := fun q n w => run_makeMap_hint Try.underlying109 q n w
  obtain ⟨W1, hW1⟩ : ∃ W1, W.alloc (.map #[] 0) = W1 := ⟨_, rfl⟩
  have HM1 : Hid (IsMp mpJ W1 mb 0 (Bp.joinTo P 0)) := by unfold Hid; rw [← hW1, ← hmb]; exact IsMp.made mpJ W
  have HB1 : Hid (Below mb W W1) := by unfold Hid; rw [← hW1, ← hmb]; exact (Below.refl _ _).alloc (Nat.le_refl _) _
  have d1 : W1.cell? ⟨w.heap.size, 0, none⟩ = some (.slice A P.length c) := (HB1.out.cell (p := ⟨w.heap.size, 0, none⟩) (by show w.heap.size < mb; omega)).trans d0
  clear hsz hb hv0 hg hB
  go_enter Try.func82, Try.ntmps82
  go_wp2
  clear hW1 hmb hm1
  go_loopw [14] (fun i wr => ∃ k : Nat, k ≤ P.length ∧ i = .int .i64 k ∧ Hid (IsMp mpJ wr mb k (Bp.joinTo P k)) ∧ Hid (Below mb W wr)) (fun i _ => P.length - (intOf i).toNat)
  case atStart => exact ⟨0, Nat.zero_le _, rfl, HM1.out, HB1.out⟩
  case round =>
    obtain ⟨k, hk, rfl, HM, HBr⟩ := hrel
    have HBw : Hid (Below w.heap.size w wr) := HB0.out.trans (HBr.out.mono (by have := HSZ.out; omega))
    have hmr : mb ≤ wr.heap.size := by have := HBr.out.size; have := HSZ.out; omega
    have HVr := Lib.hid (HV0.out.below_ HBw.out HBB.out)
    by_cases hlt : k < P.length
    · obtain ⟨b, off, p, rfl, hbB, hpok, hq, c0, c1, c2, c3, c4⟩ := HVr.out.piece_ hlt
      have hki : (k : Int) < (P.length : Int) := by omega
      have wk : IntKind.i64.wrap ((k : Int) + 1) = (k : Int) + 1 := by rw [IntKind.wrap_i64]; omega
      obtain ⟨wp, hwp⟩ : ∃ wp, wr.alloc (.cells #[.bool p.join, .int .u8 (p.byte : Nat), .int .i64 p.left, .int .i64 p.right, .int .u32 (p.rank : Nat)] 85) = wp := ⟨_, rfl⟩
      obtain ⟨⟨_, hx⟩, hbx⟩ := pboxed hwp
      have x0 := hx 0 _ rfl
      have x2 := hx 2 _ rfl
      have x3 := hx 3 _ rfl
      have x4 := hx 4 _ rfl
      have HBp : Hid (Below mb W wp) := HBr.out.trans (hbx.mono hmr)
      have HMp : Hid (IsMp mpJ wp mb k (Bp.joinTo P k)) := HM.out.below_ hbx HM.out.lt_
      have HQ := Lib.hid hq
      have HPO := Lib.hid hpok
      cases hj : p.join with
      | true =>
        have HX := Lib.hid (Bp.joinTo_join hq hj)
        rw [hj] at c0 x0 hwp
        clear hx hbx hq hpok hj
        go_wp2_with (at_mapUpdate; go_must (refine wpList_mapUpdate_mp _ mpJ rfl _ _ _ rfl mb k (Bp.joinTo P k) rfl HMp.out (by simp only [maxLen]; omega) (p.left, p.right) rfl ⟨i64_lit HPO.out.2.1, i64_lit HPO.out.2.2.1⟩ ((k : Int), p.rank) rfl ?_; intro w6 hM hG))
        have HM6 : Hid (IsMp mpJ w6 mb (k + 1) (Bp.joinTo P (k + 1))) := by unfold Hid; rw [HX.out]; exact hM
        have HB6 : Hid (Below mb W w6) := HBp.out.grown hG (by have := HBp.out.size; have := HSZ.out; omega) (fun j hj => by cases hj; exact Nat.le_refl _)
        clear hM hG
        go_roundw
        case rel => exact ⟨k + 1, hlt, by go_num, HM6.out, HB6.out⟩
        case measure => simp [intOf]; omega
      | false =>
        have HX := Lib.hid (Bp.joinTo_byte hq hj)
        rw [hj] at c0 x0 hwp
        clear hx hbx hq hpok hj
        go_wp2
        go_roundw
        case rel => exact ⟨k + 1, hlt, by go_num, by unfold Hid; rw [HX.out]; exact HMp.out.mono_ (by omega), HBp.out⟩
        case measure => simp [intOf]; omega
    · obtain rfl : k = P.length := by omega
      have hki : ¬ ((P.length : Int) < (P.length : Int)) := by omega
      have HF : Hid (IsMp mpJ wr mb P.length (fun x => Bp.jn P x.1 x.2)) := HM.out.congr_ (fun x _ => Bp.joinTo_all HG.out x)
      go_wp2
      go_ret
      exact ⟨mb, rfl, by have := HSZ.out; omega, HF.out, HBw.out⟩
end Go.Proofs.Ytkialijipcbgkaa
namespace Go.Proofs.Ytkialijipcbgkaa
open Go.RowKit Go.Maps
set_option linter.unusedVariables false

theorem flat_iK (l : List Int) : iK.flat l = l.map (Value.int .i64) := by
  induction l with
  | nil => rfl
  | cons x l ih =>
    show [Value.int .i64 x] ++ iK.flat l = _
    rw [ih]
    rfl
theorem size_int : (Try.prog.info? 3).map (·.size) = some 1 := by kernel_rfl

set_option maxRecDepth 100000 in
set_option maxHeartbeats 2000000 in
theorem pnew_row (P : List Vo.Pc) (v : Value) (l : List Int) (u : Value) (B : Nat) (w : World) (hv : Lv pK w B v P) (hu : Lv iK w B u l) (hB : B ≤ w.heap.size) (hg : Vo.Good P) (hP : P.length ≤ 4096) (hl : l.length ≤ 4096) (ht : Bp.Toks P l) :
    Calls Try.prog 61 #[.agg #[v], u] w (fun e w' => ∃ rb, e = .returned (.pointer (some ⟨rb, 0, none⟩)) ∧ IsRow w' rb w.heap.size (Bp.jn P) l.length l ∧ Below w.heap.size w w') := by
  obtain ⟨W, hW⟩ : ∃ W, w.alloc (.cells #[v] 41) = W := ⟨_, rfl⟩
  obtain ⟨d0, hsz, hb⟩ := boxed hW
  have HJ := Lib.hid (pjoins_of P v B W (hv.below_ hb hB) (Nat.le_trans hB hb.size) hg hP)
  have HU := Lib.hid hu
  have HB0 := Lib.hid hb
  have HBB := Lib.hid hB
  have HSZ := Lib.hid hsz
  have HG := Lib.hid hg
  have HT := Lib.hid ht
  have HJO : Hid (JOk (Bp.jn P)) := fun x y t r h => by
    obtain ⟨T, q, rfl, hq, -, -, -, rfl, -⟩ := Bp.jn_some h
    have := (List.getElem?_eq_some_iff.1 hq).1
    exact ⟨by unfold I64; omega, (hv.ok_ q (List.mem_of_getElem? hq)).2.2.2⟩
  obtain ⟨A, c, rfl, -, -, -, -, -⟩ := hv
  obtain ⟨A2, c2, rfl, -, -, -, -, -⟩ := hu
  clear hb hsz hB hg ht
  go_enter Try.func61, Try.ntmps61
  go_wp2_with (fail)
  refine (HJ.out).mono ?_
  rintro e w1 ⟨mb, rfl, hmb, hm1, hb1⟩
  have HB1 : Hid (Below w.heap.size w w1 ∧ w.heap.size < mb ∧ mb < w1.heap.size) := ⟨HB0.out.trans (hb1.mono HB0.out.size), by have := HSZ.out; omega, hm1.lt_⟩
  have HM1 := Lib.hid hm1
  have HN := Lib.hid (pnewP 84 #[] Bp.ltP w1)
  unfold fnV at HN
  clear hmb hm1 hb1 HJ d0
  go_wp2_with (fail)
  refine (HN.out).mono ?_
  rintro e w2 ⟨qb, F, rfl, hq2, hF2, hb2⟩
  have HB2 : Hid (Below w.heap.size w w2 ∧ w1.heap.size ≤ w2.heap.size) := ⟨HB1.out.1.trans (hb2.mono HB1.out.1.size), hb2.size⟩
  have HM2 := Lib.hid (HM1.out.below_ hb2 HM1.out.lt_)
  have HQ2 := Lib.hid hq2
  have HF2 : Hid ((∀ j, F j → w1.heap.size ≤ j) ∧ ∀ j, F j → j < w2.heap.size) := ⟨hF2, hq2.lt_⟩
  clear hq2 hF2 hb2 HN HM1
  obtain ⟨w3, hw3⟩ : ∃ w3, w2.alloc (.cells ((Try.zeroCells121.setIfInBounds 12294 (.map (some mb))).setIfInBounds 12295 (.pointer (some ⟨qb, 0, none⟩))) 121) = w3 := ⟨_, rfl⟩
  have hr3 : RowQ w3 w2.heap.size (List.replicate 4098 0) (List.replicate 4098 0) (List.replicate 4098 0) mb qb := by
    rw [← hw3, zero_row]
    exact ⟨heap_alloc_new w2 _, List.length_replicate, List.length_replicate, List.length_replicate, fun x hx => by rw [List.eq_of_mem_replicate hx]; unfold I64; omega⟩
  have hb3 : Below w2.heap.size w2 w3 := by rw [← hw3]; exact (Below.refl _ _).alloc (Nat.le_refl _) _
  have hz0 : (List.replicate 4098 (0 : Int))[0]? = some 0 := by rw [List.getElem?_replicate, if_pos (by omega)]
  have c0 := hr3.tok_ hz0
  have f0 := hr3.cool_ 0
  have r3 := hr3.setTok_ (i := 0) (by omega) (x := -1) (by unfold I64; omega)
  obtain ⟨z1, hz1⟩ : ∃ z, ((List.replicate 4098 (0 : Int)).set 0 (-1))[l.length + 1]? = some z := ⟨_, List.getElem?_eq_getElem (by rw [List.length_set, List.length_replicate]; omega)⟩
  have c1 := r3.tok_ hz1
  have f1 := r3.cool_ (l.length + 1)
  have r4 := r3.setTok_ (i := l.length + 1) (by omega) (x := -1) (by unfold I64; omega)
  have hli : (l.length : Int) + 1 < 4098 := by omega
  obtain ⟨w4, hw4⟩ : ∃ w4, ((w3.setCell ⟨w2.heap.size, 0, none⟩ (.int .i64 (-1))).setCell ⟨w2.heap.size, l.length + 1, none⟩ (.int .i64 (-1))).drew = w4 := ⟨_, rfl⟩
  have HR4 : Hid (RowQ w4 w2.heap.size (Bp.ends l.length) (List.replicate 4098 0) (List.replicate 4098 0) mb qb) := by unfold Hid; rw [← hw4]; exact r4.drew_
  have HB4 : Hid (Below w2.heap.size w2 w4) := by
    unfold Hid; rw [← hw4]
    exact ((hb3.setCell (p := ⟨w2.heap.size, 0, none⟩) (Nat.le_refl _) _).setCell (p := ⟨w2.heap.size, l.length + 1, none⟩) (Nat.le_refl _) _).drew
  go_wp2
  go_region
  clear hw4 hw3 hr3 hb3 hz0 hz1 c0 f0 r3 c1 f1 r4
  have HU4 := Lib.hid (HU.out.below_ (HB2.out.1.trans (HB4.out.mono HB2.out.1.size)) HBB.out)
  have h1le : (1 : Int) ≤ (l.length : Int) + 1 := by omega
  have h2le : (l.length : Int) + 1 ≤ 4098 := by omega
  have HPOS : Hid (0 < (l.map (Value.int .i64)).length → ∃ ad, A2 = some ad ∧ ∀ j v, (l.map (Value.int .i64))[j]? = some v → w4.cell? (ad.add j) = some v) := fun hp => by
    obtain ⟨A3, c3, e3, -, -, -, -, h6⟩ := HU4.out
    injection e3 with e3 _ _
    obtain ⟨b, off, rfl, _, hc⟩ := h6 (by simpa using hp)
    subst e3
    refine ⟨_, rfl, fun j v hj => ?_⟩
    rw [add_addr]
    exact hc j v (by rw [flat_iK]; exact hj)
  have HFIT : Hid (1 + (l.map (Value.int .i64)).length ≤ (rowC (Bp.ends l.length) (List.replicate 4098 0) (List.replicate 4098 0) mb qb).length) := by
    unfold Hid rowC
    simp [Bp.ends_len]
    omega
  have HONE : Hid (∀ v ∈ l.map (Value.int .i64), v.oneCell' = true) := fun v hv => by
    obtain ⟨x, -, rfl⟩ := List.mem_map.1 hv
    rfl
  have HHD := Lib.hid HR4.out.head
  have HCP := Lib.hid (row_copy l hl (List.replicate 4098 0) (List.replicate 4098 0) mb qb)
  obtain ⟨cur, hcur⟩ : ∃ cur, rowC (Bp.ends l.length) (List.replicate 4098 0) (List.replicate 4098 0) mb qb = cur := ⟨_, rfl⟩
  rw [hcur] at HHD HFIT HCP
  clear hcur
  go_wp2_with (show wpList _ _ _ [_] _ _; go_must (refine wpList_copy_splice rfl _ _ _ _ rfl 3 Try.underlying25 size_int _ _ l.length 4097 l.length c2 rfl rfl w2.heap.size 1 cur 121 HHD.out (l.map (Value.int .i64)) (by rw [List.length_map]; exact (Nat.min_self _).symm) (fun hp => ⟨rfl, HPOS.out hp⟩) HFIT.out HONE.out w2.heap.size w2 HB4.out (Nat.le_refl _) ?_; intro w5 h5 hb5))
  have HR5 : Hid (RowQ w5 w2.heap.size (Bp.toksOf l) (Bp.aTo 0) (Bp.nTo 0) mb qb) := by
    have h := h5.out
    rw [HCP.out] at h
    unfold Hid
    rw [Bp.aTo_nil, Bp.nTo_nil]
    exact ⟨h, Bp.toksOf_len hl, List.length_replicate, List.length_replicate, Bp.toksOf_ok (fun x hx => by have := HT.out x hx; unfold I64; omega)⟩
  have HB5 := Lib.hid hb5
  clear h5 hb5 HFIT HONE HPOS HR4 HB4 HU4 HHD HCP
  go_loopw [34] (fun i wr => ∃ k : Nat, k ≤ l.length + 1 ∧ i = .int .i64 k ∧ Hid (RowQ wr w2.heap.size (Bp.toksOf l) (Bp.aTo k) (Bp.nTo k) mb qb) ∧ Hid (Below w2.heap.size w2 wr)) (fun i _ => l.length + 1 - (intOf i).toNat)
  case atStart => exact ⟨0, Nat.zero_le _, rfl, HR5.out, HB5.out⟩
  case round =>
    obtain ⟨k, hk, rfl, HR, HBr⟩ := hrel
    by_cases hlt : k < l.length + 1
    · have hki : (k : Int) < (l.length : Int) + 1 := by omega
      have hk2 : (k : Int) < 4098 := by omega
      have hk3 : (k : Int) + 1 < 4098 := by omega
      have wk : IntKind.i64.wrap ((k : Int) + 1) = (k : Int) + 1 := by rw [IntKind.wrap_i64]; omega
      have q1 := HR.out.behind_ (Bp.nTo_rest k k (Nat.le_refl _) (by omega))
      have p1 := HR.out.cool_ (8196 + k)
      have r1 := HR.out.setBehind_ (i := k) (by omega) ((k + 1 : Nat) : Int)
      obtain ⟨y, hy⟩ : ∃ y, (Bp.aTo k)[k + 1]? = some y := ⟨_, List.getElem?_eq_getElem (by rw [Bp.aTo_len]; omega)⟩
      have q2 := r1.ahead_ hy
      have p2 := r1.cool_ (4098 + (k + 1))
      have r2 := r1.setAhead_ (i := k + 1) (by omega) (k : Int)
      obtain ⟨w6, hw6⟩ : ∃ w6, ((wr.setCell ⟨w2.heap.size, 8196 + k, none⟩ (.int .i64 ((k + 1 : Nat) : Int))).setCell ⟨w2.heap.size, 4098 + (k + 1), none⟩ (.int .i64 (k : Int))).drew = w6 := ⟨_, rfl⟩
      have HR6 : Hid (RowQ w6 w2.heap.size (Bp.toksOf l) (Bp.aTo (k + 1)) (Bp.nTo (k + 1)) mb qb) := by unfold Hid; rw [← hw6]; exact r2.drew_
      have HB6 : Hid (Below w2.heap.size w2 w6) := by
        unfold Hid; rw [← hw6]
        exact ((HBr.out.setCell (p := ⟨w2.heap.size, 8196 + k, none⟩) (Nat.le_refl _) _).setCell (p := ⟨w2.heap.size, 4098 + (k + 1), none⟩) (Nat.le_refl _) _).drew
      rw [Int.natCast_add, Int.natCast_one] at hw6 r1 q2 p2
      clear r1 r2 hy
      go_wp2
      go_region
      clear hw6 q1 p1 q2 p2
      go_wp2
      go_roundw
      case rel => exact ⟨k + 1, by omega, by go_num, HR6.out, HB6.out⟩
      case measure => simp [intOf]; omega
    · obtain rfl : k = l.length + 1 := by omega
      have hki : ¬ (((l.length + 1 : Nat) : Int) < (l.length : Int) + 1) := by omega
      have HS6 : Hid (RowS wr w2.heap.size w.heap.size (Bp.jn P) (Bp.toksOf l) (Bp.aTo (l.length + 1)) (Bp.nTo (l.length + 1)) (Bp.startS (Bp.jn P) (Bp.toksOf l) 0) 0) := by
        have h1 := HB1.out
        have h2 := HB2.out
        have h3 := HF2.out
        exact ⟨mb, qb, F, P.length, HR.out, HM2.out.below_ HBr.out HM2.out.lt_, HQ2.out.turned_ (Turned.of_below HBr.out) (fun j hj _ hk => by omega), fun hf => by have := h3.2 _ hf; omega, fun hf => by have := h3.1 _ hf; omega, by have := h2.1.size; omega, by omega, fun j hf => by have := h3.1 _ hf; have := h1.1.size; omega⟩
      have HB6 : Hid (Below w.heap.size w wr ∧ w.heap.size ≤ wr.heap.size) := ⟨HB2.out.1.trans (HBr.out.mono HB2.out.1.size), by have := HB2.out.1.size; have := HBr.out.size; omega⟩
      clear HR5 HB5 HR HBr
      go_wp2
      go_loopw [53] (fun i wx => ∃ k m : Nat, k ≤ l.length + 1 ∧ m ≤ k ∧ i = .int .i64 k ∧ Hid (RowS wx w2.heap.size w.heap.size (Bp.jn P) (Bp.toksOf l) (Bp.aTo (l.length + 1)) (Bp.nTo (l.length + 1)) (Bp.startS (Bp.jn P) (Bp.toksOf l) k) m) ∧ Hid (Below w.heap.size w wx ∧ w.heap.size ≤ wx.heap.size)) (fun i _ => l.length + 1 - (intOf i).toNat)
      case atStart => exact ⟨0, 0, Nat.zero_le _, Nat.le_refl _, rfl, HS6.out, HB6.out⟩
      case round =>
        obtain ⟨k, m, hk, hm, rfl, HS, HB⟩ := hrel
        by_cases hlt : k < l.length + 1
        · have hki2 : (k : Int) < (l.length : Int) + 1 := by omega
          have wk : IntKind.i64.wrap ((k : Int) + 1) = (k : Int) + 1 := by rw [IntKind.wrap_i64]; omega
          have HC := Lib.hid (pwait_any HS.out HJO.out HB.out.2 (left := k) (right := k + 1) (by omega) (by omega) (Bp.nTo_at _ k (by omega) (by omega)) (by omega))
          go_wp2_with (fail)
          refine (HC.out).mono ?_
          rintro e w7 ⟨rfl, m7, hm7, hs7, hb7⟩
          have HS7 := Lib.hid hs7
          have HB7 : Hid (Below w.heap.size w w7 ∧ w.heap.size ≤ w7.heap.size) := ⟨HB.out.1.trans hb7, by have := HB.out.2; have := hb7.size; omega⟩
          have HM7 := Lib.hid hm7
          clear hs7 hb7 hm7 HC
          go_wp2
          go_roundw
          case rel => exact ⟨k + 1, m7, by omega, by have := HM7.out; omega, by go_num, HS7.out, HB7.out⟩
          case measure => simp [intOf]; omega
        · obtain rfl : k = l.length + 1 := by omega
          go_wp2
          go_ret
          refine ⟨w2.heap.size, rfl, ⟨_, _, _, _, m, List.range' 1 l.length, HS.out, ?_, (Bp.start_row rfl Bp.toksOf_at).symm, by omega⟩, HB.out.1⟩
          exact Bp.St.start (Bp.jn_grows HG.out) rfl (by rw [Bp.toksOf_len hl]; omega) Bp.toksOf_zero Bp.toksOf_at (Bp.toksOf_last hl) (fun x hx => (HT.out x hx).1)
            (fun i hi => Bp.nTo_at _ i (by omega) (by omega)) (Bp.nTo_rest _ _ (Nat.le_refl _) (by omega)) (fun i hi => Bp.aTo_at _ i (by omega) (by omega)) (Bp.aTo_zero _)
end Go.Proofs.Ytkialijipcbgkaa
namespace Go.Proofs.Ytkialijipcbgkaa
open Go.RowKit Go.Maps
set_option linter.unusedVariables false

set_option maxRecDepth 100000 in
set_option maxHeartbeats 2000000 in
theorem plist_any {w : World} {rb mb qb n : Nat} {J : Int → Int → Option (Int × Nat)} {T A N : List Int} {S : List Pr} {ps : List Nat} (h : RowQ w rb T A N mb qb) (hs : Bp.St J n T A N S ps) (hn : n ≤ 4096) :
    Calls Try.prog 63 #[.pointer (some ⟨rb, 0, none⟩)] w (IsL1 iK (ps.map (Bp.at_ T)) w) := by
  obtain ⟨q0, Z0, hq0⟩ : ∃ q Z, ps ++ [n + 1] = q :: Z := by
    cases ps with
    | nil => exact ⟨_, _, rfl⟩
    | cons c Y => exact ⟨c, Y ++ [n + 1], rfl⟩
  have hfirst : N[0]? = some (q0 : Int) := hs.linked.nxt [] 0 q0 Z0 (by rw [hq0]; rfl)
  have hpl : ps.length ≤ n := by
    have := (List.nodup_iff_pairwise_ne.2 (hs.sorted.imp (fun h => Nat.ne_of_lt h))).length_le_of_subset (l₂ := List.range' 1 n) (fun p hp => by rw [List.mem_range'_1]; have := hs.within p hp; omega)
    simpa using this
  have c0 := h.behind_ hfirst
  have HQ0 := Lib.hid hq0
  have HS := Lib.hid hs
  have HR := Lib.hid h
  have HPL := Lib.hid hpl
  clear hfirst hs h hpl hq0
  go_enter Try.func63, Try.ntmps63
  go_wp2
  go_loopw [3, 4] (fun s3 s4 wr => ∃ (X : List Nat) (q : Nat) (Z : List Nat) (A3 : Option Addr) (c3 : Nat), s4 = .int .i64 (q : Nat) ∧ s3 = .slice A3 X.length c3 ∧ Hid (ps ++ [n + 1] = X ++ q :: Z) ∧ Hid (OwnL iK wr w.heap.size (.slice A3 X.length c3) (X.map (Bp.at_ T))) ∧ Hid (Below w.heap.size w wr)) (fun s3 _ _ => 4098 - lenV s3)
  case atStart => exact ⟨[], q0, Z0, none, 0, rfl, rfl, HQ0.out, OwnL.nil_ _ _ _, Below.refl _ _⟩
  case round =>
    obtain ⟨X, q, Z, A3, c3, rfl, rfl, HX, HO, HB⟩ := hrel
    have hXl : X.length ≤ n := by
      have h1 := congrArg List.length HX.out
      simp at h1
      have := HPL.out
      omega
    have g := HR.out.block_ (HB.out.block rb HR.out.lt_)
    cases Z with
    | nil =>
      obtain ⟨hX, hq⟩ := List.append_inj' HX.out rfl
      obtain rfl : n + 1 = q := by injection hq
      have ht : T[n + 1]? = some (-1) := by
        rw [Bp.of_at HS.out.len, HS.out.gone (n + 1) (Nat.le_refl _) (fun hm => by have := HS.out.within _ hm; omega)]
      have c1 := g.tok_ ht
      have hqi : ((n + 1 : Nat) : Int) < 4098 := by omega
      have HXe := Lib.hid hX
      clear g ht hX hq hXl c0
      go_wp2
      go_ret
      refine ⟨A3, c3, by rw [List.length_map, HXe.out]; rfl, ?_, HB.out⟩
      rw [List.length_map, HXe.out]
      exact HO.out
    | cons z Z =>
      have hq : q ∈ ps := by
        have h1 : q ∈ ps ++ [n + 1] := by rw [HX.out]; simp
        rcases List.mem_append.1 h1 with h1 | h1
        · exact h1
        · exfalso
          have hfs := Bp.full_sorted HS.out.sorted HS.out.within
          rw [HX.out, List.mem_singleton.1 h1] at hfs
          have h2 := (List.pairwise_append.1 (List.pairwise_cons.1 hfs).2).2.1
          have h3 := (List.pairwise_cons.1 h2).1 z (by simp)
          have h4 : z ∈ ps ++ [n + 1] := by rw [HX.out]; simp
          rcases List.mem_append.1 h4 with h4 | h4
          · have := HS.out.within z h4; omega
          · have := List.mem_singleton.1 h4; omega
      have hqn := HS.out.within q hq
      have ht : T[q]? = some (Bp.at_ T q) := Bp.of_at (by have := HS.out.len; omega)
      have hpos := HS.out.tok q hq
      have hI := g.ok _ (List.mem_of_getElem? ht)
      obtain ⟨t, hte⟩ : ∃ t, Bp.at_ T q = t := ⟨_, rfl⟩
      rw [hte] at ht hpos hI
      have c1 := g.tok_ ht
      have hnx : N[q]? = some (z : Int) := HS.out.linked.nxt (0 :: X) q z Z (by rw [HX.out]; rfl)
      have hqi : (q : Int) < 4098 := by omega
      have hne : (t != -1) = true := by rw [bne_iff_ne]; omega
      have HE := Lib.hid hte
      have HNX := Lib.hid hnx
      have HXL := Lib.hid hXl
      clear g ht hnx hte hXl c0 hq
      go_wp2_with (at_builtin; go_must (refine wpList_push_m _ iK rfl _ _ rfl w.heap.size _ rfl (X.map (Bp.at_ T)) HO.out rfl t hI _ rfl _ rfl (by rw [List.length_map]; show _ * 8 ≤ _; have := HXL.out; omega) (by rw [List.length_map]; simp only [maxLen]; have := HXL.out; omega) HB.out.size ?_; intro A4 c4 w4 hA hG hM; have hB4 := HB.out.grown hG HB.out.size (fun k hk => (HO.out.lt_ k hk).1); have c4' := (HR.out.block_ (hB4.block rb HR.out.lt_)).behind_ HNX.out))
      have HA : Hid (OwnL iK w4 w.heap.size (.slice A4 (X.length + 1) c4) ((X ++ [q]).map (Bp.at_ T))) := by
        unfold Hid
        rw [List.map_append, List.map_cons, List.map_nil, HE.out]
        rw [List.length_map] at hA
        exact hA
      have HB4 := Lib.hid hB4
      clear hA hG hM hB4 c1 hne hpos hI
      go_wp2
      go_roundw
      case rel => exact ⟨X ++ [q], z, Z, A4, c4, rfl, by simp, by unfold Hid; rw [HX.out]; simp, by rw [List.length_append]; exact HA.out, HB4.out⟩
      case measure => simp only [lenV]; have := HXL.out; omega
end Go.Proofs.Ytkialijipcbgkaa
namespace Go.Proofs.Ytkialijipcbgkaa
open Go.RowKit
set_option linter.unusedVariables false

/-- The tokens of a row. -/
theorem plist_row {w : World} {rb base n : Nat} {J : Int → Int → Option (Int × Nat)} {l : List Int} (h : IsRow w rb base J n l) (hn : n ≤ 4096) :
    Calls Try.prog 63 #[.pointer (some ⟨rb, 0, none⟩)] w (IsL1 iK l w) := by
  obtain ⟨T, A, N, S, m, ps, ⟨mb, qb, F, h1⟩, h2, rfl, -⟩ := h
  exact plist_any h1.row_ h2 hn
theorem IsRow.lt_ {w : World} {rb base n : Nat} {J : Int → Int → Option (Int × Nat)} {l : List Int} (h : IsRow w rb base J n l) : rb < w.heap.size := by
  obtain ⟨T, A, N, S, m, ps, h1, -⟩ := h
  exact h1.lt_
theorem IsRow.to_ {w w' : World} {rb base n : Nat} {J : Int → Int → Option (Int × Nat)} {l : List Int} (h : IsRow w rb base J n l) (hb : Below w.heap.size w w') : IsRow w' rb base J n l := by
  obtain ⟨T, A, N, S, m, ps, h1, h2⟩ := h
  exact ⟨T, A, N, S, m, ps, h1.to_ hb, h2⟩
theorem jn_ok {P : List Vo.Pc} (hok : ∀ q ∈ P, PcOk q) (hP : P.length ≤ 4096) : JOk (Bp.jn P) := fun x y t r h => by
  obtain ⟨T, q, rfl, hq, -, -, -, rfl, -⟩ := Bp.jn_some h
  have := (List.getElem?_eq_some_iff.1 hq).1
  exact ⟨by unfold I64; omega, (hok q (List.mem_of_getElem? hq)).2.2.2⟩

set_option maxHeartbeats 2000000 in
set_option maxRecDepth 100000 in
theorem pencode_all (P : List Vo.Pc) (v : Value) (b : List Nat) (u : Value) (B : Nat) (w : World) (hv : Lv pK w B v P) (hu : Lv yK w B u b) (hB : B ≤ w.heap.size) :
    Calls Try.prog 44 #[.agg #[v], u] w (IsLE iK (Bp.encE P b) w) := by
  obtain ⟨W, hW⟩ : ∃ W, w.alloc (.cells #[v] 41) = W := ⟨_, rfl⟩
  obtain ⟨d0, hsz, hb⟩ := boxed hW
  have HBG := Lib.hid (pbegin_big P v b u B W (hv.below_ hb hB) (hu.below_ hb hB) (Nat.le_trans hB hb.size))
  have HV := Lib.hid hv
  have HB0 := Lib.hid hb
  have HBB := Lib.hid hB
  have HSZ := Lib.hid hsz
  have HY : Hid (∀ x ∈ b, x < 256) := hu.ok_
  obtain ⟨A, c, rfl, -, -, -, -, -⟩ := hv
  obtain ⟨A2, c2, rfl, k1, k2, -, -, -⟩ := hu
  have hll : b.length ≤ 9223372036854775807 := by simp only [maxLen] at k2; omega
  clear hb hsz hB k1 k2
  by_cases hgood : Vo.May P ∧ b.length ≤ 4096
  · obtain ⟨hm, hbl⟩ := hgood
    have hX : Bp.beginE P b = (Bp.beginL P b, 0) := by unfold Bp.beginE; rw [if_pos hm, if_neg (by omega)]
    have HX : Hid (Bp.encE P b = (Bp.nf (Bp.jn P) (Bp.beginL P b), 0)) := by unfold Hid Bp.encE; rw [if_pos hm, if_neg (by omega)]; rfl
    have HTK : Hid (Bp.Toks P (Bp.beginL P b)) := Bp.begin_toks hm (fun q hq => (HV.out.ok_ q hq).1) HY.out
    have HG : Hid (Vo.Good P ∧ P.length ≤ 4096) := ⟨(Vo.may_iff.1 hm).2.1, (Vo.may_iff.1 hm).1⟩
    have HJ : Hid (JOk (Bp.jn P) ∧ Bp.Grows (Bp.jn P)) := ⟨jn_ok HV.out.ok_ HG.out.2, Bp.jn_grows HG.out.1⟩
    have HL0 : Hid ((Bp.beginL P b).length = b.length) := Bp.begin_len
    obtain ⟨l0, hl0⟩ : ∃ l0, Bp.beginL P b = l0 := ⟨_, rfl⟩
    rw [hl0] at hX HX HTK HL0
    rw [hX] at HBG
    unfold IsLE at HBG
    simp only at HBG
    clear hX hl0 hm
    go_enter Try.func44, Try.ntmps44
    go_wp2_with (fail)
    refine (HBG.out).mono ?_
    rintro e w1 ⟨A1, c1, rfl, ho1, hb1⟩
    have HB1 : Hid (Below W.heap.size W w1) := hb1
    have HO1 := Lib.hid ho1
    have d1 : w1.cell? ⟨w.heap.size, 0, none⟩ = some (.slice A P.length c) := (hb1.cell (p := ⟨w.heap.size, 0, none⟩) (by show w.heap.size < _; have := HSZ.out; omega)).trans d0
    have HBw : Hid (Below w.heap.size w w1) := HB0.out.trans (hb1.mono HB0.out.size)
    have HN := Lib.hid (pnew_row P (.slice A P.length c) l0 (.slice A1 l0.length c1) w1.heap.size w1 ((HV.out.below_ HBw.out HBB.out).mono_ (Nat.le_trans HBB.out HBw.out.size)) ho1.form_ (Nat.le_refl _) HG.out.1 HG.out.2 (by have := HL0.out; omega) HTK.out)
    clear ho1 hb1 HBG
    go_wp2_with (fail)
    refine (HN.out).mono ?_
    rintro e w2 ⟨rb, rfl, hr2, hb2⟩
    have HR2 := Lib.hid hr2
    have HB2 : Hid (Below w1.heap.size w1 w2) := hb2
    clear hr2 hb2 HN d1
    go_wp2
    go_loopg [] l0.length (fun g wr => ∃ l : List Int, l.length ≤ g ∧ Hid (IsRow wr rb w1.heap.size (Bp.jn P) l0.length l) ∧ Hid (Bp.nf (Bp.jn P) l = Bp.nf (Bp.jn P) l0) ∧ Hid (Below w1.heap.size w1 wr))
    case atStart => exact ⟨l0, Nat.le_refl _, HR2.out, rfl, HB2.out⟩
    case round =>
      obtain ⟨l, hlg, HR, HNF, HBr⟩ := hrel
      have HC := Lib.hid (prow_step HR.out HJ.out.1 HJ.out.2 (by have := HL0.out; omega) HBr.out.size)
      cases hs : Bp.stepOf (Bp.jn P) l with
      | none =>
        rw [hs] at HC
        have HF : Hid (Bp.encE P b = (l, 0)) := by unfold Hid; rw [HX.out, ← HNF.out, Bp.nf_none hs]
        clear hs
        go_wp2_with (fail)
        refine (HC.out).mono ?_
        rintro e w3 ⟨rfl, hr3, hb3⟩
        have HB3 : Hid (Below w1.heap.size w1 w3) := HBr.out.trans hb3
        have HLS := Lib.hid (plist_row hr3 (by have := HL0.out; omega))
        clear hr3 hb3 HC
        go_wp2_with (fail)
        refine (HLS.out).mono ?_
        rintro e w4 ⟨A4, c4, rfl, ho4, hb4⟩
        have HO4 := Lib.hid ho4
        have HB4 : Hid (Below w.heap.size w w4) := HBw.out.trans ((HB3.out.trans (hb4.mono HB3.out.size)).mono HBw.out.size)
        have HS3 : Hid (w.heap.size ≤ w3.heap.size) := by unfold Hid; have := HB3.out.size; have := HBw.out.size; omega
        clear ho4 hb4 HLS
        go_wp2
        go_ret2
        exact IsLE.of HF.out rfl rfl (HO4.out.mono_ HS3.out) HB4.out
      | some m =>
        rw [hs] at HC
        have hlen := Bp.step_len hs
        have HNM : Hid (Bp.nf (Bp.jn P) m = Bp.nf (Bp.jn P) l0) := by unfold Hid; rw [← HNF.out, ← Bp.nf_step hs]
        clear hs
        cases gk with
        | zero => omega
        | succ g =>
          go_wp2_with (fail)
          refine (HC.out).mono ?_
          rintro e w3 ⟨rfl, hr3, hb3⟩
          have HR3 : Hid (IsRow w3 rb w1.heap.size (Bp.jn P) l0.length m) := hr3
          have HB3 : Hid (Below w1.heap.size w1 w3) := HBr.out.trans hb3
          clear hr3 hb3 HC
          go_wp2
          go_roundg g
          case measure => omega
          case rel => exact ⟨m, by omega, HR3.out, HNM.out, HB3.out⟩
  · obtain ⟨E, hE, h1, h2⟩ : ∃ E : Nat, E ≠ 0 ∧ Bp.beginE P b = ([], E) ∧ Bp.encE P b = ([], E) := by
      unfold Bp.beginE Bp.encE
      by_cases hm : Vo.May P
      · have hbig : 4096 < b.length := by
          apply Decidable.byContradiction
          intro h
          exact hgood ⟨hm, by omega⟩
        exact ⟨3, by omega, by rw [if_pos hm, if_pos hbig], by rw [if_pos hm, if_pos hbig]⟩
      · exact ⟨11, by omega, by rw [if_neg hm], by rw [if_neg hm]⟩
    have HX := Lib.hid h2
    rw [h1] at HBG
    unfold IsLE at HBG
    simp only at HBG
    have hEb : ((E : Int) != 0) = true := by rw [bne_iff_ne]; omega
    clear h1 h2 hgood hE
    go_enter Try.func44, Try.ntmps44
    go_wp2_with (fail)
    refine (HBG.out).mono ?_
    rintro e w1 ⟨A1, c1, rfl, ho1, hb1⟩
    have HBw : Hid (Below w.heap.size w w1) := HB0.out.trans (hb1.mono HB0.out.size)
    clear ho1 hb1 HBG
    go_wp2
    go_ret2
    exact IsLE.none_b HX.out rfl HBw.out
end Go.Proofs.Ytkialijipcbgkaa
