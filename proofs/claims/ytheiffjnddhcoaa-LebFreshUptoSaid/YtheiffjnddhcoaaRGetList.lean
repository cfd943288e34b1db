/-
  stookref01.GetList answers a counted list, in new memory.
-/
import Derived.Test.YtheiffjnddhcoaaCount
import Derived.Test.YtheiffjnddhcoaaWords
import Derived.Test.YtheiffjnddhcoaaMathF
namespace Go.Proofs.Ytheiffjnddhcoaa
open Go.RowKit
set_option linter.unusedVariables false

/-- A call that answers these numbers in new memory, a place and an error, and turns nothing that was there. -/
def IsLst (r : List Nat × Nat × Nat) (w : World) (e : Ending) (w' : World) : Prop :=
  ∃ A c, e = .returned (.tuple #[.slice A r.1.length c, .int .i64 r.2.1, .int .i64 r.2.2]) ∧ OwnW w' w.heap.size (.slice A r.1.length c) r.1 ∧ Below w.heap.size w w'
theorem IsLst.none_ {w w' : World} {r : List Nat × Nat × Nat} {e : Nat} (h : r = ([], 0, e)) (hb : Below w.heap.size w w') : IsLst r w (.returned (.tuple #[.slice none 0 0, .int .i64 0, .int .i64 (e : Nat)])) w' := by
  subst h; exact ⟨none, 0, rfl, OwnW.nil_ _ _, hb⟩
theorem IsLst.of {w w' : World} {r : List Nat × Nat × Nat} {y : List Nat} {k e : Nat} {v : Value} (h : r = (y, k, e)) (ho : OwnW w' w.heap.size v y) (hb : Below w.heap.size w w') :
    IsLst r w (.returned (.tuple #[v, .int .i64 (k : Nat), .int .i64 (e : Nat)])) w' := by
  obtain ⟨A, c, rfl, _⟩ := ho.form_
  subst h; exact ⟨A, c, rfl, ho, hb⟩
theorem info37 : (Try.prog.info? 22).map (fun i => (i.zero, i.size, i.bytes)) = some (some (.int .u64 0), 1, 8) := by kernel_rfl

set_option maxHeartbeats 2000000 in
set_option maxRecDepth 100000 in
theorem rgetList_any (v : Value) (l : List Nat) (B : Nat) (a most : Int) (w : World) (hB : B ≤ w.heap.size) (h : Bv w B v l) (hm : most ≤ 9223372036854775807) (hsz : l.length ≤ 33554432) :
    Calls Try.prog 26 #[v, .int .i64 a, .int .i64 most] w (IsLst (Mt.getList l a most) w) := by
  have HC := Lib.hid (rcount_any v l B a most w h hm)
  have HM := Lib.hid hm
  clear hm
  have H0 := Lib.hid h
  rcases Mt.count_cases h.lt_ a most with ⟨e, he2, he5, hr⟩ | ⟨k, n, r, rfl, hk, hb, hs, hle, hr, hmm⟩
  · have HR := Lib.hid hr
    have HX := Lib.hid (Mt.getList_err hr (by omega))
    have hq : (((e : Nat) : Int) != 0) = true := by rw [bne_iff_ne]; omega
    clear hr
    go_enter Try.func26, Try.ntmps26
    go_wp2_with fail
    ((with_reducible refine HC.out.mono ?_); rintro e' w2 ⟨he, hb2⟩)
    rw [HR.out] at he
    subst he
    clear HC
    go_wp2
    go_ret3
    exact IsLst.none_ HX.out hb2
  · obtain ⟨x, hx⟩ : ∃ x, k + (Mt.put n).length = x := ⟨_, rfl⟩
    rw [hx] at hr hle
    have HR := Lib.hid hr
    have hn63 : n ≤ 9223372036854775807 := by have := HM.out; omega
    have HX := Lib.hid (Mt.getList_ok hr)
    obtain ⟨A, c, rfl, hc1, hc2, hc3, h4⟩ := id h
    have HLT := Lib.hid h.lt_
    clear h4 hc3 hs hb hx h hmm hr hc1 hc2
    go_enter Try.func26, Try.ntmps26
    go_wp2_with fail
    ((with_reducible refine HC.out.mono ?_); rintro e' w2 ⟨he, hb2⟩)
    rw [HR.out] at he
    subst he
    have HB := Lib.hid hb2
    have hz2 : w.heap.size ≤ w2.heap.size := hb2.size
    clear HC hb2
    have HO := Lib.hid (OwnW.nil_ w2 w.heap.size)
    have HB1 := HB
    go_wp2_with fail
    go_loopw [12, 10, 13] (fun u p i wr => ∃ (j y : Nat) (ys : List Nat), j ≤ n ∧ i = .int .i64 j ∧ p = .int .i64 y ∧ y ≤ l.length ∧ ys.length ≤ y ∧ Hid (OwnW wr w.heap.size u ys) ∧ Hid (Mt.gets n l x = Mt.prep ys (Mt.gets (n - j) l y)) ∧ Below w.heap.size w wr) (fun _ _ i _ => n - (intOf i).toNat)
    case atStart => exact ⟨0, x, [], by omega, rfl, rfl, hle, by simp, HO.out, (Mt.gets_form n l x).symm, HB1.out⟩
    case round =>
      obtain ⟨j, y, ys, hj, rfl, rfl, hy, hys, HY, HG, hbr⟩ := hrel
      have hbase : w.heap.size ≤ wr.heap.size := hbr.size
      clear HO HB1 HB
      by_cases hlt : j < n
      · obtain ⟨d, hd⟩ : ∃ d, n - j = d + 1 := ⟨n - j - 1, by omega⟩
        have HC2 := Lib.hid (rget_any _ l B (y : Int) wr (H0.out.below_ hbr hB))
        rcases Mt.get_cases HLT.out (y : Int) with ⟨e, he2, he5, hr2⟩ | ⟨k2, n2, r2, hyk, hk2, hb2, hs2, hle2, hr2⟩
        · have HR2 := Lib.hid hr2
          have HE : Hid (Mt.getList l (k : Nat) most = ([], 0, e)) := by
            unfold Hid; rw [HX.out, HG.out, hd, Mt.gets_err hr2 (by omega), Mt.prep_err (by omega)]
          have hq : (((e : Nat) : Int) != 0) = true := by rw [bne_iff_ne]; omega
          clear hr2 HG hd
          go_wp2_with fail
          ((with_reducible refine HC2.out.mono ?_); rintro e' w4 ⟨he, hb4⟩)
          rw [HR2.out] at he
          subst he
          have HB4 := Lib.hid (hbr.trans (hb4.mono hbase))
          clear HC2 hb4
          go_wp2
          go_ret3
          exact IsLst.none_ HE.out HB4.out
        · have hpl := Mt.put_len_pos n2
          obtain ⟨y2, hy2⟩ : ∃ y2, k2 + (Mt.put n2).length = y2 := ⟨_, rfl⟩
          rw [hy2] at hr2 hle2
          have hyk' : y = k2 := by omega
          have HR2 := Lib.hid hr2
          have HG2 : Hid (Mt.gets n l x = Mt.prep (ys ++ [n2]) (Mt.gets (n - (j + 1)) l y2)) := by
            unfold Hid
            have e1 : n - (j + 1) = d := by omega
            rw [HG.out, hd, Mt.gets_on hr2, Mt.prep_prep, e1]
          have hys2 : ys.length + 1 ≤ y2 := by omega
          have HN := Lib.hid hb2
          clear hr2 HG hd hs2 hyk hyk' hk2 hpl hy2 hb2
          go_wp2_with fail
          ((with_reducible refine HC2.out.mono ?_); rintro e' w4 ⟨he, hb4⟩)
          rw [HR2.out] at he
          subst he
          have HB4 := Lib.hid (hbr.trans (hb4.mono hbase))
          have hz4 : w.heap.size ≤ w4.heap.size := HB4.out.size
          have HY4 := Lib.hid ((HY.out.below_ hb4 (Nat.le_refl _)).alloc_ (.cells #[.int .u64 (n2 : Int)] 22))
          have HS := Lib.hid (Wv.one_ w4 (x := (n2 : Int)) (c := n2) rfl HN.out)
          have HB5 := Lib.hid (HB4.out.alloc hz4 (.cells #[.int .u64 (n2 : Int)] 22))
          clear HC2 hb4 HY HB4 hbr
          go_wp2_with (at_builtin; go_must (refine wpList_append_words _ rfl _ _ rfl rfl w.heap.size _ rfl ys HY4.out _ rfl _ [n2] HS.out (by simp; omega) (by simp; omega) ?_; intro A5 c5 w5 hA))
          go_roundw
          case rel => exact ⟨j + 1, y2, ys ++ [n2], by omega, by go_num, rfl, hle2, by simp; omega, (by simpa [Hid] using hA.own), HG2, HB5.out.grown hA.grown (by simp; omega) (fun k hk => (HY4.out.lt_ k hk).1)⟩
          case measure => simp [intOf]; omega
      · have hjn : n - j = 0 := by omega
        have HE : Hid (Mt.getList l (k : Nat) most = (ys, y, 0)) := by
          unfold Hid; rw [HX.out, HG.out, hjn, Mt.gets, Mt.prep_ok, List.append_nil]
        clear HG hjn
        go_wp2
        go_ret3
        exact IsLst.of HE.out HY.out hbr
end Go.Proofs.Ytheiffjnddhcoaa
