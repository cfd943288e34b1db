/-
  SfDo: stooklaw14.do: a deed, of the program's disk.
  SfGreat: stooklaw14.great: more than a statement goes through.
  SfSure: Chapter 14: a file that is sure, of a name that is there for sure, stays, whatever is done to others.
-/
import Derived.Test.YtmcbjcbnckpfkaaGreatPk37
import Derived.Test.YtmcbjcbnckpfkaaGreatPk05
import Derived.BigRegion
import Derived.JoinedCond
import Derived.Test.YtmcbjcbnckpfkaaGreatPk11
namespace Go.Proofs.YtmcbjcbnckpfkaaGreat
open Go.RowKit
set_option linter.unusedVariables false
set_option maxHeartbeats 2000000 in
set_option maxRecDepth 100000 in
theorem pdo_any {w : World} {f : Fp} {t : Sf.St} {b : Nat} (h : PDisk w f t b) (hf : Sf.Few t) (x : Raw) (o : Sf.Op) (B : Nat) (hx : RawOk x) (hd : Deed w B x o) (hB : B ≤ w.heap.size) (hM : 0 < o.b.length → ∀ k, (Value.slice x.A x.n x.c).ownBlock = some k → ¬ f.M k) :
    Calls Tryz.prog 10 #[.pointer (some ⟨b, 0, none⟩), .agg (deedC x)] w (IsDeed PDisk f b (Sf.doOp t o) w) := by
  obtain ⟨h0, h1, h2, h3, h4⟩ := hd
  obtain ⟨c0, c1, c2, c3⟩ := hx
  obtain ⟨call', name', to', at', A, n, c⟩ := x
  obtain ⟨call, name, to, at_, bs⟩ := o
  simp only at h0 h1 h2 h3 h4 c0 c1 c2 c3 hM
  subst h0 h1 h2 h3
  have hD := pdisk_turned h (alloc_turned w (.cells #[.int .u8 (call : Nat), .string name, .string to, .int .i64 at_, .slice A n c] 35)) (fun _ h => h.elim)
  have hV : Lv yK (w.alloc (.cells #[.int .u8 (call : Nat), .string name, .string to, .int .i64 at_, .slice A n c] 35)) B (.slice A n c) bs := h4.below_ ((Below.refl B w).alloc hB _) (Nat.le_refl _)
  have hB1 : B ≤ (w.alloc (.cells #[.int .u8 (call : Nat), .string name, .string to, .int .i64 at_, .slice A n c] 35)).heap.size := by simp; omega
  unfold deedC
  clear h h4
  by_cases k0 : call = 0
  · have p0 : ((call : Int) == 0) = true := by rw [beq_iff_eq]; omega
    have HC := Lib.hid (pcreate_any hD hf name c1)
    have HE : Hid (Sf.doOp t ⟨call, name, to, at_, bs⟩ = Sf.create t name) := by unfold Hid Sf.doOp; simp [k0]
    rw [HE.out]
    clear hD hV hB1 hM HE k0
    go_enter Tryz.func10, Tryz.ntmps10
    go_wp2_with fail
    ((with_reducible refine HC.out.mono ?_); rintro e w2 ⟨rfl, hr⟩)
    have HR := Lib.hid hr
    clear hr HC
    go_wp2
    go_ret
    exact IsDeed.of_alloc ⟨rfl, HR.out⟩
  · have q0 : ((call : Int) == 0) = false := by rw [beq_eq_false_iff_ne]; omega
    by_cases k1 : call = 1
    · have p1 : ((call : Int) == 1) = true := by rw [beq_iff_eq]; omega
      have HC := Lib.hid (pappend_any hD hf name c1 _ B bs hV hB1 hM)
      have HE : Hid (Sf.doOp t ⟨call, name, to, at_, bs⟩ = Sf.append t name bs) := by unfold Hid Sf.doOp; simp [k1]
      rw [HE.out]
      clear hD hV hB1 hM HE k0 k1
      go_enter Tryz.func10, Tryz.ntmps10
      go_wp2_with fail
      ((with_reducible refine HC.out.mono ?_); rintro e w2 ⟨rfl, hr⟩)
      have HR := Lib.hid hr
      clear hr HC
      go_wp2
      go_ret
      exact IsDeed.of_alloc ⟨rfl, HR.out⟩
    · have q1 : ((call : Int) == 1) = false := by rw [beq_eq_false_iff_ne]; omega
      by_cases k2 : call = 2
      · have p2 : ((call : Int) == 2) = true := by rw [beq_iff_eq]; omega
        have HC := Lib.hid (pwrite_any hD hf name c1 at_ c3 _ B bs hV hB1 hM)
        have HE : Hid (Sf.doOp t ⟨call, name, to, at_, bs⟩ = Sf.write t name at_ bs) := by unfold Hid Sf.doOp; simp [k2]
        rw [HE.out]
        clear hD hV hB1 hM HE k0 k1 k2
        go_enter Tryz.func10, Tryz.ntmps10
        go_wp2_with fail
        ((with_reducible refine HC.out.mono ?_); rintro e w2 ⟨rfl, hr⟩)
        have HR := Lib.hid hr
        clear hr HC
        go_wp2
        go_ret
        exact IsDeed.of_alloc ⟨rfl, HR.out⟩
      · have q2 : ((call : Int) == 2) = false := by rw [beq_eq_false_iff_ne]; omega
        by_cases k3 : call = 3
        · have p3 : ((call : Int) == 3) = true := by rw [beq_iff_eq]; omega
          have HC := Lib.hid (pcut_any hD hf name c1 at_ c3)
          have HE : Hid (Sf.doOp t ⟨call, name, to, at_, bs⟩ = Sf.cut t name at_) := by unfold Hid Sf.doOp; simp [k3]
          rw [HE.out]
          clear hD hV hB1 hM HE k0 k1 k2 k3
          go_enter Tryz.func10, Tryz.ntmps10
          go_wp2_with fail
          ((with_reducible refine HC.out.mono ?_); rintro e w2 ⟨rfl, hr⟩)
          have HR := Lib.hid hr
          clear hr HC
          go_wp2
          go_ret
          exact IsDeed.of_alloc ⟨rfl, HR.out⟩
        · have q3 : ((call : Int) == 3) = false := by rw [beq_eq_false_iff_ne]; omega
          by_cases k4 : call = 4
          · have p4 : ((call : Int) == 4) = true := by rw [beq_iff_eq]; omega
            have HC := Lib.hid (prename_any hD hf name to c1 c2)
            have HE : Hid (Sf.doOp t ⟨call, name, to, at_, bs⟩ = Sf.rename t name to) := by unfold Hid Sf.doOp; simp [k4]
            rw [HE.out]
            clear hD hV hB1 hM HE k0 k1 k2 k3 k4
            go_enter Tryz.func10, Tryz.ntmps10
            go_wp2_with fail
            ((with_reducible refine HC.out.mono ?_); rintro e w2 ⟨rfl, hr⟩)
            have HR := Lib.hid hr
            clear hr HC
            go_wp2
            go_ret
            exact IsDeed.of_alloc ⟨rfl, HR.out⟩
          · have q4 : ((call : Int) == 4) = false := by rw [beq_eq_false_iff_ne]; omega
            by_cases k5 : call = 5
            · have p5 : ((call : Int) == 5) = true := by rw [beq_iff_eq]; omega
              have HC := Lib.hid (premove_any hD hf name c1)
              have HE : Hid (Sf.doOp t ⟨call, name, to, at_, bs⟩ = Sf.remove t name) := by unfold Hid Sf.doOp; simp [k5]
              rw [HE.out]
              clear hD hV hB1 hM HE k0 k1 k2 k3 k4 k5
              go_enter Tryz.func10, Tryz.ntmps10
              go_wp2_with fail
              ((with_reducible refine HC.out.mono ?_); rintro e w2 ⟨rfl, hr⟩)
              have HR := Lib.hid hr
              clear hr HC
              go_wp2
              go_ret
              exact IsDeed.of_alloc ⟨rfl, HR.out⟩
            · have q5 : ((call : Int) == 5) = false := by rw [beq_eq_false_iff_ne]; omega
              by_cases k6 : call = 6
              · have p6 : ((call : Int) == 6) = true := by rw [beq_iff_eq]; omega
                have HC := Lib.hid (psync_any hD hf name c1)
                have HE : Hid (Sf.doOp t ⟨call, name, to, at_, bs⟩ = Sf.sync t name) := by unfold Hid Sf.doOp; simp [k6]
                rw [HE.out]
                clear hD hV hB1 hM HE k0 k1 k2 k3 k4 k5 k6
                go_enter Tryz.func10, Tryz.ntmps10
                go_wp2_with fail
                ((with_reducible refine HC.out.mono ?_); rintro e w2 ⟨rfl, hr⟩)
                have HR := Lib.hid hr
                clear hr HC
                go_wp2
                go_ret
                exact IsDeed.of_alloc ⟨rfl, HR.out⟩
              · have q6 : ((call : Int) == 6) = false := by rw [beq_eq_false_iff_ne]; omega
                by_cases k7 : call = 7
                · have p7 : ((call : Int) == 7) = true := by rw [beq_iff_eq]; omega
                  have HC := Lib.hid (psyncDir_any hD hf)
                  have HE : Hid (Sf.doOp t ⟨call, name, to, at_, bs⟩ = Sf.syncDir t) := by unfold Hid Sf.doOp; simp [k7]
                  rw [HE.out]
                  clear hD hV hB1 hM HE k0 k1 k2 k3 k4 k5 k6 k7
                  go_enter Tryz.func10, Tryz.ntmps10
                  go_wp2_with fail
                  ((with_reducible refine HC.out.mono ?_); rintro e w2 ⟨rfl, hr⟩)
                  have HR := Lib.hid hr
                  clear hr HC
                  go_wp2
                  go_ret
                  exact IsDeed.of_alloc ⟨rfl, HR.out⟩
                · have q7 : ((call : Int) == 7) = false := by rw [beq_eq_false_iff_ne]; omega
                  by_cases k8 : call = 8
                  · have p8 : ((call : Int) == 8) = true := by rw [beq_iff_eq]; omega
                    have HC := Lib.hid (parm_any hD at_ c3)
                    have HE : Hid (Sf.doOp t ⟨call, name, to, at_, bs⟩ = Sf.arm t at_) := by unfold Hid Sf.doOp; simp [k8]
                    rw [HE.out]
                    clear hD hV hB1 hM HE k0 k1 k2 k3 k4 k5 k6 k7 k8
                    go_enter Tryz.func10, Tryz.ntmps10
                    go_wp2_with fail
                    ((with_reducible refine HC.out.mono ?_); rintro e w2 ⟨rfl, hr⟩)
                    have HR := Lib.hid hr
                    clear hr HC
                    go_wp2
                    go_ret
                    exact IsDeed.of_alloc ⟨rfl, HR.out⟩
                  · have q8 : ((call : Int) == 8) = false := by rw [beq_eq_false_iff_ne]; omega
                    have HE : Hid (Sf.doOp t ⟨call, name, to, at_, bs⟩ = (0, t)) := by unfold Hid Sf.doOp; simp only [k0, k1, k2, k3, k4, k5, k6, k7, k8, if_false]
                    rw [HE.out]
                    have HD := Lib.hid hD
                    clear hD hV hB1 hM HE
                    go_enter Tryz.func10, Tryz.ntmps10
                    go_wp2
                    go_ret
                    exact IsDeed.of_alloc ⟨rfl, f, HD.out, Fp.Next.refl _ _, Turned.refl _ _⟩
end Go.Proofs.YtmcbjcbnckpfkaaGreat
namespace Go.Proofs.YtmcbjcbnckpfkaaGreat
open Go.RowKit
set_option linter.unusedVariables false
theorem Sf.bulk_more {l : List Sf.Op} {k : Nat} {o : Sf.Op} (h : l[k]? = some o) : Sf.bulk (l.take (k + 1)) = Sf.bulk (l.take k) + min o.b.length 20001 := by
  unfold Sf.bulk
  rw [List.take_add_one, h]
  simp
theorem Sf.bulk_le (l : List Sf.Op) (k : Nat) : Sf.bulk (l.take k) ≤ Sf.bulk l := by
  have h : l = l.take k ++ l.drop k := (List.take_append_drop k l).symm
  have e : Sf.bulk l = Sf.bulk (l.take k) + Sf.bulk (l.drop k) := by
    conv => lhs; rw [h]
    unfold Sf.bulk
    rw [List.map_append, List.sum_append]
  omega
set_option maxHeartbeats 2000000 in
set_option maxRecDepth 100000 in
theorem great_any (v : Value) (B : Nat) (l : List Sf.Op) (w : World) (h : Dv w B v l) (hB : B ≤ w.heap.size) :
    Calls Tryz.prog 8 #[v] w (IsBool (Sf.great l) w) := by
  have H0 := Lib.hid h
  obtain ⟨us, hu1, hu2, hu3⟩ := h
  obtain ⟨A, c, rfl, hc1, hc2, _, _⟩ := hu2
  rw [hu1] at hc1 H0 ⊢
  have hl : l.length ≤ 9223372036854775807 := by simp only [maxLen] at hc2; omega
  clear hu1 hu3 hc1 hc2
  go_enter Tryz.func8, Tryz.ntmps8
  go_wp2
  go_loop [3, 4] (fun nn i => ∃ (k s : Nat), k ≤ l.length ∧ s ≤ 40001 ∧ i = .int .i64 (k : Nat) ∧ nn = .int .i64 (s : Nat) ∧ Hid (s = Sf.bulk (l.take k))) (fun _ i => l.length - (intOf i).toNat)
  case atStart => exact ⟨0, 0, by omega, by omega, rfl, rfl, rfl⟩
  case round =>
    obtain ⟨k, s, hk, hs, rfl, rfl, HS⟩ := hrel
    by_cases hlt : k < l.length
    · have hki : (k : Int) < (l.length : Int) := by omega
      have hk0 : (0 : Int) ≤ (k : Int) := by omega
      have wk : IntKind.i64.wrap ((k : Int) + 1) = (k : Int) + 1 := by rw [IntKind.wrap_i64]; omega
      by_cases hn : s ≤ 20000
      · have hni : (s : Int) ≤ 20000 := by omega
        obtain ⟨b, off, x, o, rfl, hb, hq, _, hxn, hol, hcell⟩ := H0.out.row_ hlt
        rw [hxn] at hcell
        obtain ⟨m, hm⟩ : ∃ m, min o.b.length 20001 = m := ⟨_, rfl⟩
        have hmi : (if (20001 : Int) < (o.b.length : Int) then (20001 : Int) else (o.b.length : Int)) = (m : Int) := by split <;> omega
        have HS2 : Hid (s + m = Sf.bulk (l.take (k + 1))) := by unfold Hid; rw [Sf.bulk_more hq, ← HS.out, hm]
        have ws : IntKind.i64.wrap ((s : Int) + (m : Int)) = (s : Int) + (m : Int) := by rw [IntKind.wrap_i64]; omega
        have hm2 : m ≤ 20001 := by omega
        clear hq hm HS hxn
        go_wp2
        go_round
        case rel => exact ⟨k + 1, s + m, by omega, by omega, by go_num, by go_num, HS2⟩
        case measure => simp [intOf]; omega
      · have hni : ¬ (s : Int) ≤ 20000 := by omega
        have hg : Sf.great l = true := by
          have h1 := Sf.bulk_le l k
          rw [← HS.out] at h1
          unfold Sf.great
          rw [Bool.or_eq_true, decide_eq_true_eq, decide_eq_true_eq]
          omega
        have HG := Lib.hid hg
        have hn2 : (20000 : Int) < (s : Int) := by omega
        clear HS hg
        by_cases h120 : (120 : Int) < (l.length : Int)
        · go_wp2
          go_ret
          exact ⟨congrArg (fun x => Ending.returned (Value.bool x)) HG.out.symm, Below.refl _ _⟩
        · go_wp2
          go_ret
          exact ⟨congrArg (fun x => Ending.returned (Value.bool x)) HG.out.symm, Below.refl _ _⟩
    · have hki : ¬ (k : Int) < (l.length : Int) := by omega
      have hkk : k = l.length := by omega
      have hg : Sf.great l = (decide (120 < l.length) || decide (20000 < s)) := by
        have h1 := HS.out
        rw [hkk, List.take_length] at h1
        unfold Sf.great
        rw [h1]
      have HG := Lib.hid hg
      clear HS hg
      by_cases h120 : (120 : Int) < (l.length : Int)
      · have h1 : 120 < l.length := by omega
        have HT : Hid ((decide (120 < l.length) || decide (20000 < s)) = true) := by unfold Hid; simp [h1]
        clear h1
        go_wp2
        go_ret
        exact ⟨congrArg (fun x => Ending.returned (Value.bool x)) (HG.out.trans HT.out).symm, Below.refl _ _⟩
      · have h1 : ¬ 120 < l.length := by omega
        by_cases h2 : (20000 : Int) < (s : Int)
        · have HT : Hid ((decide (120 < l.length) || decide (20000 < s)) = true) := by unfold Hid; simp [h1]; omega
          clear h1
          go_wp2
          go_ret
          exact ⟨congrArg (fun x => Ending.returned (Value.bool x)) (HG.out.trans HT.out).symm, Below.refl _ _⟩
        · have HT : Hid ((decide (120 < l.length) || decide (20000 < s)) = false) := by unfold Hid; simp [h1]; omega
          clear h1
          go_wp2
          go_ret
          exact ⟨congrArg (fun x => Ending.returned (Value.bool x)) (HG.out.trans HT.out).symm, Below.refl _ _⟩
end Go.Proofs.YtmcbjcbnckpfkaaGreat
namespace Go.Proofs.YtmcbjcbnckpfkaaGreat.Sf
open Go.RowKit
set_option linter.unusedVariables false

theorem blown_files (t : St) : (blown t).2.files = t.files := by
  unfold blown
  split
  · rfl
  · split <;> rfl
structure SureInv (s : ByteArray) (b : List Nat) (t : St) : Prop where
  file : fileAt t 0 = ⟨b, []⟩
  has : 0 < t.files.length
  sure : find t.sure s = some 0
  seen : find t.seen s = some 0
  row : ∀ d ∈ t.row, find d s = some 0
  only : ∀ e ∈ t.seen, e.1 ≠ s → e.2 ≠ 0
section
variable {s : ByteArray} {b : List Nat} {t : St}
theorem SureInv.blown_ (h : SureInv s b t) : SureInv s b (blown t).2 := by
  unfold blown
  split
  · exact ⟨h.file, h.has, h.sure, h.seen, h.row, h.only⟩
  · split
    · exact ⟨h.file, h.has, h.sure, h.seen, h.row, h.only⟩
    · exact ⟨h.file, h.has, h.sure, h.seen, h.row, h.only⟩
theorem SureInv.turn_ (h : SureInv s b t) {d : Dir} (hd : find d s = some 0) (ho : ∀ e ∈ d, e.1 ≠ s → e.2 ≠ 0) : SureInv s b (turn t d).2 := by
  unfold turn
  refine SureInv.blown_ ⟨h.file, h.has, h.sure, hd, fun x hx => ?_, ho⟩
  simp only [List.mem_append, List.mem_singleton] at hx
  rcases hx with hx | rfl
  · exact h.row x hx
  · exact hd
theorem SureInv.set_ (h : SureInv s b t) {n : Nat} (hn : n ≠ 0) (f : File) : SureInv s b { t with files := t.files.set n f } := by
  refine ⟨?_, by simpa using h.has, h.sure, h.seen, h.row, h.only⟩
  have h1 := h.file
  unfold fileAt at h1 ⊢
  simp only
  rw [List.getD_eq_getElem?_getD, List.getElem?_set_ne hn, ← List.getD_eq_getElem?_getD]
  exact h1
theorem SureInv.num (h : SureInv s b t) {u : ByteArray} (hu : u ≠ s) (hg : ¬ (get t u).2 ≠ 0) : (get t u).1 ≠ 0 := by
  obtain ⟨_, hf⟩ := get_ok (t := t) (s := u) (by omega)
  exact h.only _ (find_mem hf) hu
theorem SureInv.add_ (h : SureInv s b t) {n : Nat} (hn : n ≠ 0) (a : Act) : SureInv s b (add t n a).2 := by
  unfold add
  exact SureInv.blown_ (h.set_ hn _)
theorem SureInv.deed (h : SureInv s b t) (o : Op) (h1 : o.name ≠ s) (h2 : o.to ≠ s) : SureInv s b (doOp t o).2 := by
  unfold doOp
  split
  · unfold create; split; · exact h
    split; · exact h
    split; · exact h
    split; · exact h
    have h0 : SureInv s b { t with files := t.files ++ [noFile] } := by
      refine ⟨?_, by simp, h.sure, h.seen, h.row, h.only⟩
      have h1 := h.file
      unfold fileAt at h1 ⊢
      simp only
      rw [List.getD_eq_getElem?_getD, List.getElem?_append_left h.has, ← List.getD_eq_getElem?_getD]
      exact h1
    refine h0.turn_ ((find_with h1).trans h.seen) fun e he hs => ?_
    rcases mem_with.1 he with rfl | he
    · have := h.has; simp only; omega
    · exact h.only e he hs
  split
  · unfold append; split; · exact h
    rename_i hg
    split; · exact h
    exact h.add_ (h.num h1 hg) _
  split
  · unfold write; split; · exact h
    rename_i hg
    split; · exact h
    split; · exact h
    exact h.add_ (h.num h1 hg) _
  split
  · unfold cut; split; · exact h
    rename_i hg
    split; · exact h
    exact h.add_ (h.num h1 hg) _
  split
  · unfold rename; split; · exact h
    rename_i hg
    split; · exact h
    refine h.turn_ ?_ fun e he hs => ?_
    · rw [find_with h2, find_without h2, find_without h1]; exact h.seen
    · rcases mem_with.1 he with rfl | he
      · exact h.num h1 hg
      · exact h.only e (mem_without.1 (mem_without.1 he).1).1 hs
  split
  · unfold remove; split; · exact h
    refine h.turn_ ?_ fun e he hs => ?_
    · rw [find_without h1]; exact h.seen
    · exact h.only e (mem_without.1 he).1 hs
  split
  · unfold sync; split; · exact h
    rename_i hg
    split; · exact h.blown_
    have hb := h.blown_
    have e : (blown t).2.files = t.files := blown_files t
    have := hb.set_ (h.num h1 hg) ⟨now (fileAt t (get t o.name).1), []⟩
    rw [e] at this
    exact this
  split
  · unfold syncDir; split; · exact h
    split; · exact h.blown_
    have hb := h.blown_
    exact ⟨hb.file, hb.has, h.seen, hb.seen, by simp, hb.only⟩
  split
  · unfold arm; split; · exact h
    split; · exact h
    exact ⟨h.file, h.has, h.sure, h.seen, h.row, h.only⟩
  exact h
/-- What is read of it behind a failure. -/
theorem SureInv.left_ (h : SureInv s b t) (l : List Int) (hb : b.length ≤ 1048576) : read (fail t l) s 0 1048576 = (b, 0) := by
  have hd : find (dirOf t l) s = some 0 := by
    rcases dirOf_mem t l with e | e
    · rw [e]; exact h.sure
    · exact h.row _ e
  obtain ⟨l', e⟩ := fail_read hd 1048576 (by decide)
  rw [e, h.file, kept1_none, List.take_of_length_le (by simpa using hb)]
end

/-! ### The first file of a disk -/
/-- A disk of one file that is sure. -/
def oneSure (s : ByteArray) (b : List Nat) (acts : Nat) : St := ⟨1048576, [⟨b, []⟩], [(s, 0)], [], [(s, 0)], acts, 0, false⟩
theorem one1 {s : ByteArray} (h : isName s = true) : create (new 1048576) s = (0, ⟨1048576, [noFile], [], [[(s, 0)]], [(s, 0)], 1, 0, false⟩) := by
  unfold create
  rw [if_neg (by simp [new]), if_neg (by rw [h]; simp), if_neg (by simp [new, find]), if_neg (by simp [new])]
  rfl
def one1S (s : ByteArray) : St := ⟨1048576, [noFile], [], [[(s, 0)]], [(s, 0)], 1, 0, false⟩
theorem get_one {t : St} {s : ByteArray} {n : Nat} {d : Dir} (hd : t.dead = false) (h : t.seen = (s, n) :: d) : get t s = (n, 0) := by
  unfold get find
  rw [hd, h]
  simp
def one2S (s : ByteArray) (b : List Nat) : St := ⟨1048576, [⟨[], [⟨false, 0, b⟩]⟩], [], [[(s, 0)]], [(s, 0)], 2, 0, false⟩
theorem one2 (s : ByteArray) {b : List Nat} (hb : b.length ≤ 1048576) : append (one1S s) s b = (0, one2S s b) := by
  have hg : get (one1S s) s = (0, 0) := get_one rfl rfl
  unfold append
  rw [hg, if_neg (by simp), if_neg (by simp [one1S, used, lens, len, fileAt, noFile, now]; omega)]
  rfl
def one3S (s : ByteArray) (b : List Nat) : St := ⟨1048576, [⟨b, []⟩], [], [[(s, 0)]], [(s, 0)], 3, 0, false⟩
theorem one3 (s : ByteArray) (b : List Nat) : sync (one2S s b) s = (0, one3S s b) := by
  have hg : get (one2S s b) s = (0, 0) := get_one rfl rfl
  unfold sync
  rw [hg, if_neg (by simp)]
  have e : now (fileAt (one2S s b) 0) = b := by simp [one2S, fileAt, now, done]
  rw [show (blown (one2S s b)) = (0, { one2S s b with acts := 3 }) from rfl, if_neg (by simp), e]
  rfl
theorem one4 (s : ByteArray) (b : List Nat) : syncDir (one3S s b) = (0, oneSure s b 4) := rfl
theorem sure_one (s : ByteArray) (b : List Nat) (n : Nat) : SureInv s b (oneSure s b n) :=
  ⟨rfl, by simp [oneSure], by simp [oneSure, find], by simp [oneSure, find], by simp [oneSure], by simp [oneSure]⟩
end Go.Proofs.YtmcbjcbnckpfkaaGreat.Sf
