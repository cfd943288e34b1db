/-
  RRcF: stookref13.Right.
  RVoP: stookref08.Plain.
  RcLo: The number of eight bytes, read from the lowest on.
  RcNum: record.putNumber, record.getNumber.
-/
import Derived.Test.YtkialijipcbgkaaPk36
import Derived.Test.YtkialijipcbgkaaPk24
import Derived.Test.YtkialijipcbgkaaPk07
import Derived.Test.YtkialijipcbgkaaPk32
import Derived.Test.YtkialijipcbgkaaPk33
import Derived.Laws.BitsLemmas
namespace Go.Proofs.Ytkialijipcbgkaa
open Go.RowKit
set_option linter.unusedVariables false

set_option maxHeartbeats 2000000 in
set_option maxRecDepth 100000 in
theorem rrcright_any (P : List Vo.Pc) (v : Value) (r : Rc.Rec) (t : Value) (B : Nat) (w : World) (hv : Lv pK w B v P) (hf : Rc.Fit r) (ht : Lv iK w B t r.toks) (hB : B ≤ w.heap.size) :
    Calls Try.prog 24 #[.agg #[v], .agg (rcC r t)] w (IsBool (Rc.rightE P r) w) := by
  have HTK : Hid ((rcC r t)[34]? = some t) := rcC_toks hf
  obtain ⟨W, hW⟩ : ∃ W, w.alloc (.cells #[v] 41) = W := ⟨_, rfl⟩
  obtain ⟨d0, hs0, hb⟩ := boxed hW
  obtain ⟨z, hz⟩ : ∃ z, W.heap.size = z := ⟨_, rfl⟩
  obtain ⟨V, hV⟩ : ∃ V, W.alloc (.cells (rcC r t) 27) = V := ⟨_, rfl⟩
  obtain ⟨hR, hsz, hb2⟩ := rc_boxed hV
  rw [hz] at hR hb2
  have hbV : Below w.heap.size w V := by rw [← hV]; exact hb.alloc (by omega) _
  have dV : V.cell? ⟨w.heap.size, 0, none⟩ = some v := by rw [← hV]; exact ((Below.refl W.heap.size W).alloc (Nat.le_refl _) _ |>.cell (p := ⟨w.heap.size, 0, none⟩) (by show w.heap.size < _; omega)).trans d0
  have HD := Lib.hid (rrcdoc_any P v r t B V (hv.below_ hbV hB) hf (ht.below_ hbV hB) (Nat.le_trans hB hbV.size))
  have hszC : (Try.prog.info? 27).map (·.size) = some (rcC r t).size := rc_sizeof hf
  obtain ⟨C, hC⟩ : ∃ C, rcC r t = C := ⟨_, rfl⟩
  rw [hC] at HTK HD hV hR hszC ⊢
  have HR0 := Lib.hid hR
  have HZ : Hid (w.heap.size < z ∧ z < V.heap.size ∧ w.heap.size ≤ V.heap.size) := ⟨by omega, hR.lt, by omega⟩
  have HBV := Lib.hid hbV
  have HBB := Lib.hid hB
  have HV := Lib.hid hv
  have HT := Lib.hid ht
  have HDX : Hid (∀ w', Below V.heap.size V w' → w'.cell? ⟨w.heap.size, 0, none⟩ = some v) := fun w' hb' => (hb'.cell (p := ⟨w.heap.size, 0, none⟩) (by show w.heap.size < _; have := HZ.out; omega)).trans dV
  have HTX : Hid (∀ w', Below V.heap.size V w' → w'.cell? ⟨z, 34, none⟩ = some t) := fun w' hb' => ((HR0.out.below hb' HZ.out.2.1).cell 34).trans HTK.out
  obtain ⟨A, c, rfl, -, -, -, -, -⟩ := hv
  obtain ⟨A2, c2, rfl, k1, k2, -, -, -⟩ := ht
  have htl : r.toks.length ≤ 9223372036854775807 := by simp only [maxLen] at k2; omega
  clear hB hb hb2 hbV hs0 d0 k1 k2 hf hC hR hsz HTK
  rcases Rc.docE_cases P r with ⟨l, hx, -, -, -⟩ | ⟨e, he, hx⟩
  · rw [hx] at HD
    obtain ⟨⟨m, e⟩, hm⟩ : ∃ x, Bp.encE P l = x := ⟨_, rfl⟩
    have HE := Lib.hid (Rc.rightE_of hx hm)
    have HM := Lib.hid hm
    clear hx hm
    go_enter Try.func24, Try.ntmps24
    go_wp2_with (first
      | (refine wpList_load_row rfl _ _ rfl z rfl 27 C (0, 0) _ HR0.out Try.underlying27 rfl (by rw [hszC]) ?_))
    refine (HD.out).mono ?_
    rintro e' w1 ⟨A1, c1, rfl, ho, hb1⟩
    have HB1 := Lib.hid hb1
    have d1 := HDX.out w1 hb1
    have HO1 := Lib.hid ho.form_
    have HBW1 := Lib.hid (HBV.out.trans (hb1.mono HZ.out.2.2))
    have HEC := Lib.hid (rencode_any P _ l _ w1.heap.size w1 ((HV.out.below_ HBW1.out HBB.out).mono_ (Nat.le_trans HBB.out HBW1.out.size)) HO1.out (Nat.le_refl _))
    rw [HM.out] at HEC
    clear HD ho hb1 dV hV hW hz
    go_wp2_with (fail)
    refine (HEC.out).mono ?_
    rintro e' w2 ⟨A3, c3, rfl, ho, hb2⟩
    have HB2 := Lib.hid (HB1.out.trans (hb2.mono HB1.out.size))
    have t2 := HTX.out w2 HB2.out
    have HO2 := Lib.hid ho.form_
    have hml : m.length ≤ 9223372036854775807 := by have := ho.form_.len_; simp only [maxLen] at this; omega
    have HBW2 := Lib.hid (HBV.out.trans (HB2.out.mono HZ.out.2.2))
    have HT2 := Lib.hid (HT.out.below_ HBW2.out HBB.out)
    clear HEC ho hb2 d1 HO1
    by_cases heq : m.length = r.toks.length
    · have hq : (((m.length : Nat) : Int) != ((r.toks.length : Nat) : Int)) = false := by rw [heq]; simp
      have HQ := Lib.hid heq
      clear heq
      go_wp2
      clear t2
      go_loopw [9] (fun i wr => ∃ k : Nat, k ≤ m.length ∧ i = .int .i64 k ∧ Hid (m.take k = r.toks.take k) ∧ Hid (Below w2.heap.size w2 wr)) (fun i _ => m.length - (intOf i).toNat)
      case atStart => exact ⟨0, by omega, rfl, by simp [Hid], Below.refl _ _⟩
      case round =>
        obtain ⟨k, hk, rfl, HTk, HBr⟩ := hrel
        have HBX := Lib.hid (HB2.out.trans (HBr.out.mono HB2.out.size))
        have tr := HTX.out wr HBX.out
        by_cases hlt : k < m.length
        · obtain ⟨b1, o1, x, rfl, hb1, hx, hd, hcell⟩ := (HO2.out.below_ HBr.out (Nat.le_refl _)).int_ hlt
          have hlq := HQ.out
          have hlt' : k < r.toks.length := by omega
          obtain ⟨b2, o2, y, rfl, hb2, hy, hd', hcell'⟩ := (HT2.out.below_ HBr.out (Nat.le_trans HBB.out HBW2.out.size)).int_ hlt'
          have HS := Lib.hid (take_both HTk.out hd hd')
          clear hd hd' hx hy hlq
          by_cases hxy : x = y
          · subst hxy
            have hq2 : ((x : Int) != (x : Int)) = false := by simp
            go_wp2
            go_quiet (fail)
            go_wp2
            go_roundw
            case rel => exact ⟨k + 1, by omega, by go_num, HS.out.2 (by simp), below_drewN HBr.out _⟩
            case measure => simp [intOf]; omega
          · have hq2 : ((x : Int) != (y : Int)) = true := by rw [bne_iff_ne]; omega
            go_wp2
            go_quiet (fail)
            go_wp2
            go_ret
            have hne : m ≠ r.toks := take_unlike (fun e => hxy (HS.out.1 e))
            exact ⟨by rw [HE.out]; simp [hne], HBV.out.trans ((below_drewN HBX.out _).mono HZ.out.2.2)⟩
        · have hlq := HQ.out
          go_wp2
          go_ret
          have h1 : m = r.toks := take_whole HTk.out (by omega) (by omega)
          exact ⟨by rw [HE.out]; simp [h1], HBV.out.trans (HBX.out.mono HZ.out.2.2)⟩
    · have hq : (((m.length : Nat) : Int) != ((r.toks.length : Nat) : Int)) = true := by rw [bne_iff_ne]; omega
      have hne : m ≠ r.toks := fun e => heq (by rw [e])
      have HN := Lib.hid hne
      clear heq hne
      go_wp2
      go_ret
      exact ⟨by rw [HE.out]; simp [HN.out], HBW2.out⟩
  · rw [hx] at HD
    have hq : ((e : Int) != 0) = true := by rw [bne_iff_ne]; omega
    have HE := Lib.hid (Rc.rightE_no hx he)
    clear hx he
    go_enter Try.func24, Try.ntmps24
    go_wp2_with (first
      | (refine wpList_load_row rfl _ _ rfl z rfl 27 C (0, 0) _ HR0.out Try.underlying27 rfl (by rw [hszC]) ?_))
    refine (HD.out).mono ?_
    rintro e' w1 ⟨A1, c1, rfl, ho, hb1⟩
    have HBW1 := Lib.hid (HBV.out.trans (hb1.mono HZ.out.2.2))
    clear HD ho hb1 dV hV hW hz
    go_wp2
    go_ret
    exact ⟨by rw [HE.out]; rfl, HBW1.out⟩
end Go.Proofs.Ytkialijipcbgkaa
namespace Go.Proofs.Ytkialijipcbgkaa
open Go.RowKit
set_option linter.unusedVariables false

namespace Vo
def plain (n : Nat) : List Pc := (List.range n).map (fun b => ⟨false, b, 0, 0, 0⟩)
theorem plain_len (n : Nat) : (plain n).length = n := by simp [plain]
theorem plain_succ (n : Nat) : plain (n + 1) = plain n ++ [⟨false, n, 0, 0, 0⟩] := by simp [plain, List.range_succ]
end Vo
/-- A call that answers a vocabulary of these pieces in new memory. -/
def IsVoc (P : List Vo.Pc) (w : World) (e : Ending) (w' : World) : Prop :=
  ∃ A c, e = .returned (.agg #[.slice A P.length c]) ∧ OwnL pK w' w.heap.size (.slice A P.length c) P ∧ Below w.heap.size w w'

set_option maxHeartbeats 1000000 in
theorem rplain_any (w : World) : Calls Try.prog 36 #[] w (IsVoc (Vo.plain 256) w) := by
  obtain ⟨W, hW⟩ : ∃ W, (w.alloc (.cells #[.slice none 0 0] 41)).alloc (.cells #[.slice none 0 0] 41) = W := ⟨_, rfl⟩
  have h0 : W.heap[w.heap.size]? = some (.cells #[.slice none 0 0] 41 (0, 0)) := by rw [← hW]; exact (heap_alloc_old _ _ (by simp)).trans (heap_alloc_new w _)
  have h1 : W.heap[w.heap.size + 1]? = some (.cells #[.slice none 0 0] 41 (0, 0)) := by
    have e : (w.alloc (.cells #[.slice none 0 0] 41)).heap.size = w.heap.size + 1 := by simp
    rw [← hW, ← e]; exact heap_alloc_new _ _
  have HB : Hid (Below w.heap.size w W) := by unfold Hid; rw [← hW]; exact ((Below.refl _ _).alloc (Nat.le_refl _) _).alloc (by simp) _
  have HSZ : Hid (W.heap.size = w.heap.size + 2) := by unfold Hid; rw [← hW]; simp
  have H0 := Lib.hid h0
  have H1 := Lib.hid h1
  clear h0 h1
  go_enter Try.func36, Try.ntmps36
  go_wp2
  go_loopw [2] (fun i wr => ∃ (k : Nat) (A : Option Addr) (c : Nat), k ≤ 256 ∧ i = .int .i64 k ∧ Hid (wr.heap[w.heap.size]? = some (.cells #[.slice none 0 0] 41 (0, 0))) ∧ Hid (wr.heap[w.heap.size + 1]? = some (.cells #[.slice A k c] 41 (0, 0))) ∧ Hid (OwnL pK wr W.heap.size (.slice A k c) (Vo.plain k)) ∧ Below w.heap.size w wr) (fun i _ => 256 - (intOf i).toNat)
  case atStart => exact ⟨0, none, 0, by omega, rfl, H0.out, H1.out, OwnL.nil_ _ _ _, HB.out⟩
  case round =>
    obtain ⟨k, A, c, hk, rfl, HR0, HR1, HO, hbr⟩ := hrel
    have HBr := Lib.hid hbr
    have hs := hbr.size
    have hsz := HSZ.out
    have hlt1 : w.heap.size + 1 < wr.heap.size := (Array.getElem?_eq_some_iff.1 HR1.out).1
    have HAP : Hid (∀ g, (Value.slice A k c).ownBlock = some g → w.heap.size + 2 ≤ g) := fun g hg => by have := (HO.out.lt_ g hg).1; omega
    have hc1 : wr.cell? ⟨w.heap.size + 1, 0, none⟩ = some (.slice A k c) := by rw [cell_of_row _ _ 0 _ _ _ HR1.out]; rfl
    clear hbr
    by_cases hlt : k < 256
    · have hki : (k : Int) < 256 := by omega
      have hw8 : IntKind.u8.wrap (k : Int) = (k : Int) := by rw [IntKind.wrap_u8]; omega
      have HOK : Hid (PcOk ⟨false, k, 0, 0, 0⟩) := ⟨hlt, by unfold I64; simp, by unfold I64; simp, by simp⟩
      have HL : Hid ((Vo.plain k).length = k) := Vo.plain_len k
      have hbase : W.heap.size ≤ wr.heap.size := by omega
      have HK : Hid (k + 1 ≤ 256) := hlt
      go_wp2_with (at_builtin; go_must (refine wpList_push_l _ pK rfl _ _ rfl W.heap.size _ rfl (Vo.plain k) HO.out rfl ⟨false, k, 0, 0, 0⟩ HOK.out _ rfl _ rfl (by rw [HL.out]; show _ * 32 ≤ _; omega) (by rw [HL.out]; simp only [maxLen]; omega) hbase ?_; intro A3 c3 w2 hA hG; have hh4 := (hG.block (w.heap.size + 1) hlt1 (fun e => by have := HAP.out _ e.symm; omega)).trans HR1.out; have hc4 : w2.cell? ⟨w.heap.size + 1, 0, none⟩ = some (.slice A k c) := (by rw [cell_of_row _ _ 0 _ _ _ hh4]; rfl); have hf4 : w2.frozen? ⟨w.heap.size + 1, 0, none⟩ = false := frozen_of_row w2 _ 0 _ _ hh4))
      have hh0 := (hG.block w.heap.size (by omega) (fun e => by have := HAP.out _ e.symm; omega)).trans HR0.out
      have hbw : w.heap.size ≤ wr.heap.size := by omega
      have HB2 := Lib.hid ((HBr.out.grown hG hbw (fun g hg => by have := HAP.out g hg; omega)).setCell (p := ⟨w.heap.size + 1, 0, none⟩) (Nat.le_succ _) (.slice A3 (k + 1) c3))
      rw [HL.out] at hA ⊢
      have HR0' : Hid ((w2.setCell ⟨w.heap.size + 1, 0, none⟩ (.slice A3 (k + 1) c3)).heap[w.heap.size]? = some (.cells #[.slice none 0 0] 41 (0, 0))) := by
        unfold Hid; rw [heap_setCell_other _ _ _ _ (by simp)]; exact hh0
      have HR1' : Hid ((w2.setCell ⟨w.heap.size + 1, 0, none⟩ (.slice A3 (k + 1) c3)).heap[w.heap.size + 1]? = some (.cells #[.slice A3 (k + 1) c3] 41 (0, 0))) := by
        unfold Hid; rw [heap_setCell_same _ _ _ _ _ _ hh4]; rfl
      have HO' : Hid (OwnL pK (w2.setCell ⟨w.heap.size + 1, 0, none⟩ (.slice A3 (k + 1) c3)) W.heap.size (.slice A3 (k + 1) c3) (Vo.plain (k + 1))) := by
        unfold Hid
        rw [Vo.plain_succ]
        exact hA.of_block (fun g hg => heap_setCell_other _ _ _ _ (fun e => by have := (hA.lt_ g hg).1; simp at e; omega))
      clear hA hG hh4 hc4 hf4 hh0 HO HL HOK hbase hsz hlt1
      go_wp2
      go_roundw
      case rel => exact ⟨k + 1, A3, c3, HK.out, by go_num, HR0'.out, HR1'.out, HO'.out, HB2.out⟩
      case measure => simp [intOf]; omega
    · obtain rfl : k = 256 := by omega
      have hc0 : wr.cell? ⟨w.heap.size, 0, none⟩ = some (.slice none 0 0) := by rw [cell_of_row _ _ 0 _ _ _ HR0.out]; rfl
      have hf0 : wr.frozen? ⟨w.heap.size, 0, none⟩ = false := frozen_of_row wr _ 0 _ _ HR0.out
      have HL : Hid ((Vo.plain 256).length = 256) := Vo.plain_len 256
      have HO' : Hid (OwnL pK (wr.setCell ⟨w.heap.size, 0, none⟩ (.slice A 256 c)) W.heap.size (.slice A 256 c) (Vo.plain 256)) := HO.out.of_block (fun g hg => heap_setCell_other _ _ _ _ (fun e => by have := HAP.out g hg; simp at e; omega))
      have HB2 := Lib.hid (HBr.out.setCell (p := ⟨w.heap.size, 0, none⟩) (Nat.le_refl _) (.slice A 256 c))
      obtain ⟨W2, hW2⟩ : ∃ W2, wr.setCell ⟨w.heap.size, 0, none⟩ (.slice A 256 c) = W2 := ⟨_, rfl⟩
      have hc2 : W2.cell? ⟨w.heap.size, 0, none⟩ = some (.slice A 256 c) := by rw [← hW2, cell_of_row _ _ 0 _ _ _ (heap_setCell_same _ _ _ _ _ _ HR0.out)]; rfl
      rw [hW2] at HO' HB2
      clear HO
      go_wp2
      refine bodyPost_ret (v := .agg #[.slice A 256 c]) (by simp [results, Try.results36, go_sem, hc2]) rfl ⟨A, c, by rw [HL.out], ?_, HB2.out⟩
      rw [HL.out]
      exact HO'.out.mono_ (by omega)

end Go.Proofs.Ytkialijipcbgkaa
namespace Go.Proofs.Ytkialijipcbgkaa
open Go.RowKit
namespace Rc
/-- The number whose bytes they are, the lowest first: the first k of them. -/
def lo (l : List Nat) : Nat → Nat
  | 0 => 0
  | k + 1 => lo l k + l.getD k 0 * 256 ^ k
theorem lo_lt {l : List Nat} (h8 : ∀ x ∈ l, x < 256) : ∀ k, lo l k < 256 ^ k := by
  intro k
  induction k with
  | zero => simp [lo]
  | succ k ih =>
    have h : l.getD k 0 < 256 := by
      rw [List.getD_eq_getElem?_getD]
      cases hq : l[k]? with
      | none => simp
      | some x => exact h8 x (List.mem_of_getElem? hq)
    rw [lo, Nat.pow_succ]
    have h2 : l.getD k 0 * 256 ^ k ≤ 255 * 256 ^ k := Nat.mul_le_mul_right _ (by omega)
    omega
/-- It is the number that the document reads. -/
theorem lo_hi (b : List Nat) : lo ((b.drop 32).take 8) 8 = hi b 8 := by
  have e : ∀ i, i < 8 → ((b.drop 32).take 8).getD i 0 = b.getD (32 + i) 0 := fun i hi => by
    rw [List.getD_eq_getElem?_getD, List.getD_eq_getElem?_getD, List.getElem?_take, if_pos hi, List.getElem?_drop]
  have e0 := e 0 (by omega)
  have e1 := e 1 (by omega)
  have e2 := e 2 (by omega)
  have e3 := e 3 (by omega)
  have e4 := e 4 (by omega)
  have e5 := e 5 (by omega)
  have e6 := e 6 (by omega)
  have e7 := e 7 (by omega)
  simp only [Nat.reduceAdd] at e0 e1 e2 e3 e4 e5 e6 e7
  simp only [lo, hi, Nat.reduceSub, e0, e1, e2, e3, e4, e5, e6, e7, Nat.reducePow]
  omega
theorem or_lo {n x k : Nat} (hn : n < 256 ^ k) (hk : k < 8) (hx : x < 256) :
    bits BinOp.or IntKind.u64 (n : Int) (IntKind.u64.wrap ((x : Int) * 2 ^ (8 * k))) = ((n + x * 256 ^ k : Nat) : Int) := by
  have hp : (2 : Nat) ^ (8 * k) = 256 ^ k := by rw [Nat.pow_mul]
  have h56 : 256 ^ k ≤ 256 ^ 7 := Nat.pow_le_pow_right (by omega) (by omega)
  have hx2 : x * 256 ^ k ≤ 255 * 256 ^ 7 := Nat.mul_le_mul (by omega) h56
  simp only [Nat.reducePow, Nat.reduceMul] at h56 hx2
  have e : ((x : Int) * 2 ^ (8 * k)) = ((x * 256 ^ k : Nat) : Int) := by rw [← hp]; push_cast; rfl
  have hw : IntKind.u64.wrap ((x * 256 ^ k : Nat) : Int) = ((x * 256 ^ k : Nat) : Int) := by rw [IntKind.wrap_u64]; omega
  rw [e, hw, (bits_nat .u64 64 (by decide) (fun n h0 h1 => by rw [IntKind.wrap_u64]; omega) n _ (by omega) (by omega)).2]
  have h := Nat.two_pow_add_eq_or_of_lt (i := 8 * k) (b := n) (by rw [hp]; exact hn) x
  rw [hp] at h
  rw [Nat.or_comm, Nat.mul_comm x, ← h, Nat.add_comm]
end Rc
/-- Eight bytes that are nought. -/
def none8 : Array Value := bvs (List.replicate 8 0)
set_option maxRecDepth 100000 in
theorem size8b : (Try.prog.info? 54).map (·.size) = some 8 := by kernel_rfl
theorem size8l {l : List Nat} (h : l.length = 8) : (Try.prog.info? 54).map (·.size) = some (bvs l).size := by rw [bvs_size, h]; exact size8b
set_option maxRecDepth 100000 in
theorem zero8b : (Try.prog.info? 54).map (fun i => (i.zero, i.size)) = some (some (.agg none8), 8) := by kernel_rfl
theorem zero8V : ∀ w, (zeroValue 54).run Try.prog w = .ok (.agg none8) w := (zero_of_info (n := 8) zero8b).1
theorem index8b (c : Array Value) (k : Nat) (v : Value) (hk : k < 8) (hv : c[k]? = some v) (w : World) : (Instr.index 54 (.agg c) (.int .i64 k)).run Try.prog w = .ok v w := by
  have h1 : (0 : Int) ≤ (k : Int) := by omega
  have h3 : (k : Int).toNat = k := by omega
  simp [go_sem, Instr.index, part, hv, h1, h3]
  intro h
  omega
end Go.Proofs.Ytkialijipcbgkaa
namespace Go.Proofs.Ytkialijipcbgkaa
open Go.RowKit
set_option linter.unusedVariables false
namespace Rc
/-- The array of a number's bytes, the first k of them laid. -/
def pn (n k : Nat) : Array Value := bvs (le n k ++ List.replicate (8 - k) 0)
theorem pn_zero (n : Nat) : pn n 0 = none8 := rfl
theorem pn_end (n : Nat) : pn n 8 = bvs (le n 8) := by simp [pn]
theorem pn_old (n : Nat) {k : Nat} (hk : k < 8) : (pn n k)[k]? = some (.int .u8 (0 : Nat)) := by
  refine bvs_some ?_
  rw [List.getElem?_append_right (by rw [le_len]; omega), le_len, Nat.sub_self]
  obtain ⟨m, hm⟩ : ∃ m, 8 - k = m + 1 := ⟨7 - k, by omega⟩
  rw [hm]; rfl
theorem pn_set (n : Nat) {k : Nat} (hk : k < 8) : (pn n k).setIfInBounds k (.int .u8 ((n / 256 ^ k % 256 : Nat) : Int)) = pn n (k + 1) := by
  unfold pn bvs
  apply Array.ext'
  have hm : 8 - k = (8 - (k + 1)) + 1 := by omega
  rw [Array.toList_setIfInBounds, hm, List.replicate_succ, le_succ]
  simp only [List.map_append, List.map_cons]
  rw [List.set_append_right _ _ (by rw [List.length_map, le_len]; omega), List.length_map, le_len, Nat.sub_self, List.set_cons_zero]
  simp [u8]
end Rc
set_option maxHeartbeats 1000000 in
set_option maxRecDepth 100000 in
theorem pputnum_any (n : Nat) (w : World) (hn : n < 18446744073709551616) : Calls Try.prog 31 #[.int .u64 (n : Nat)] w (fun e w' => e = .returned (.agg (bvs (Rc.le n 8))) ∧ Below w.heap.size w w') := by
  have hzero := zero8V
  have HPZ : Hid (Rc.pn n 0 = none8) := Rc.pn_zero n
  have HN0 : Hid (none8.size = 8) := rfl
  obtain ⟨N, hN⟩ : ∃ N, none8 = N := ⟨_, rfl⟩
  rw [hN] at hzero HPZ HN0
  clear hN
  go_enter Try.func31, Try.ntmps31
  go_wp2
  go_loopw [5] (fun i wr => ∃ k : Nat, k ≤ 8 ∧ i = .int .i64 k ∧ Hid (Rw wr w.heap.size 54 N) ∧ Hid (Rw wr (w.heap.size + 1) 54 (Rc.pn n k)) ∧ Hid (Below w.heap.size w wr)) (fun i _ => 8 - (intOf i).toNat)
  case atStart =>
    refine ⟨0, by omega, rfl, ?_, ?_, ?_⟩
    · exact (Rw.at_ rfl _ _).old _
    · rw [HPZ.out]; exact Rw.at_ (by simp) _ _
    · exact ((Below.refl w.heap.size w).alloc (Nat.le_refl _) _).alloc (by simp) _
  case round =>
    obtain ⟨k, hk, rfl, HA, HD, HB⟩ := hrel
    by_cases h8 : k < 8
    · obtain ⟨q, hq⟩ : ∃ q, 8 * k = q := ⟨_, rfl⟩
      have HST := Lib.hid (Rc.pn_set n h8)
      have hpw : n / 2 ^ q % 256 = n / 256 ^ k % 256 := by rw [← hq, Nat.pow_mul]
      obtain ⟨y, hy⟩ : ∃ y, n / 256 ^ k % 256 = y := ⟨_, rfl⟩
      rw [hy] at HST hpw
      have hy8 : y < 256 := by omega
      have hyi : ((n : Nat) : Int) / 2 ^ q % 256 = (y : Nat) := by rw [← hpw]; simp
      have co : wr.cell? ⟨w.heap.size + 1, k, none⟩ = some (.int .u8 (0 : Nat)) := (HD.out.cell _).trans (Rc.pn_old n h8)
      have cf : wr.frozen? ⟨w.heap.size + 1, k, none⟩ = false := HD.out.frozen _
      have i0 : (k : Int) < 8 := by omega
      have i1 : (0 : Int) ≤ (k : Int) := by omega
      have i5 : (8 : Int) * (k : Int) = (q : Nat) := by omega
      have wk : IntKind.i64.wrap ((k : Int) + 1) = (k : Int) + 1 := by rw [IntKind.wrap_i64]; omega
      have wq : IntKind.i64.wrap ((q : Nat) : Int) = (q : Nat) := by rw [IntKind.wrap_i64]; omega
      clear hq hy hpw
      go_wp2
      have hd := HD.out.set k (.int .u8 (y : Nat))
      rw [HST.out] at hd
      exact ⟨⟨k + 1, by omega, by go_num, HA.out.setOther (by omega) _ _, hd, HB.out.setCell (show w.heap.size ≤ w.heap.size + 1 by omega) _⟩, by simp [intOf]; omega⟩
    · obtain rfl : k = 8 := by omega
      rw [Rc.pn_end] at HD
      have hsz := size8l (Rc.le_len n 8)
      have hone := bvs_one (Rc.le n 8)
      have hds : N.size = (bvs (Rc.le n 8)).size := by rw [bvs_size, Rc.le_len]; exact HN0.out
      obtain ⟨dv, hdv⟩ : ∃ dv, bvs (Rc.le n 8) = dv := ⟨_, rfl⟩
      rw [hdv] at HD hsz hone hds
      have HDV := Lib.hid hdv
      clear hdv
      rw [show ((8 : Nat) : Int) = (8 : Int) from rfl]
      go_wp2_with (first
        | (refine wpList_load_row rfl _ _ rfl (w.heap.size + 1) rfl 54 dv (0, 0) _ HD.out Try.underlying54 rfl hsz ?_)
        | (refine wpList_store_row rfl _ _ _ rfl w.heap.size dv rfl rfl 54 _ HA.out hsz hds hone ?_))
      refine bodyPost_ret (v := .agg dv) (results_cell_row rfl _ _ w.heap.size 54 dv (0, 0) _ rfl (Rw.row HA.out dv) Try.underlying54 rfl hsz) rfl ⟨by rw [HDV.out], HB.out.trans (below_setRow (Below.refl _ _) (by omega) _)⟩

set_option maxHeartbeats 1000000 in
set_option maxRecDepth 100000 in
theorem pgetnum_any (l : List Nat) (w : World) (hl : l.length = 8) (h8 : ∀ x ∈ l, x < 256) : Calls Try.prog 40 #[.agg (bvs l)] w (fun e w' => e = .returned (.int .u64 (Rc.lo l 8 : Nat)) ∧ Below w.heap.size w w') := by
  have HL := Lib.hid (Rc.lo_lt h8)
  have hsz := size8l hl
  have HIX : Hid (∀ (k x : Nat), k < 8 → l[k]? = some x → ∀ w, (Instr.index 54 (.agg (bvs l)) (.int .i64 k)).run Try.prog w = .ok (.int .u8 (x : Nat)) w) := fun k x hk hx w => index8b _ k _ hk (bvs_some hx) w
  obtain ⟨C, hC⟩ : ∃ C, bvs l = C := ⟨_, rfl⟩
  rw [hC] at hsz HIX ⊢
  obtain ⟨W, hW⟩ : ∃ W, w.alloc (.cells C 54) = W := ⟨_, rfl⟩
  have HR : Hid (Rw W w.heap.size 54 C) := by unfold Hid; rw [← hW]; exact Rw.new w _ _
  have HB : Hid (Below w.heap.size w W) := by unfold Hid; rw [← hW]; exact (Below.refl _ _).alloc (Nat.le_refl _) _
  clear hC
  go_enter Try.func40, Try.ntmps40
  go_wp2_with (first
    | (refine wpList_load_row rfl _ _ rfl w.heap.size rfl 54 C (0, 0) _ HR.out Try.underlying54 rfl hsz ?_))
  go_loopw [3, 7] (fun z i wr => ∃ k n : Nat, k ≤ 8 ∧ i = .int .i64 k ∧ z = .int .u64 n ∧ Hid (n = Rc.lo l k) ∧ Hid (W = wr)) (fun _ i _ => 8 - (intOf i).toNat)
  case atStart => exact ⟨0, 0, by omega, rfl, rfl, rfl, rfl⟩
  case round =>
    obtain ⟨k, n, hk, rfl, rfl, HN, HW⟩ := hrel
    obtain rfl := HW.out
    by_cases hlt : k < 8
    · obtain ⟨x, hx⟩ : ∃ x, l[k]? = some x := ⟨_, List.getElem?_eq_getElem (by omega)⟩
      have hx8 : x < 256 := h8 x (List.mem_of_getElem? hx)
      have hix := HIX.out k x hlt hx
      have HN2 : Hid (n + x * 256 ^ k = Rc.lo l (k + 1)) := by unfold Hid; rw [HN.out, Rc.lo, List.getD_eq_getElem?_getD, hx]; rfl
      have HNL : Hid (n < 256 ^ k) := by have := HL.out k; rw [← HN.out] at this; exact this
      have hor := Rc.or_lo HNL.out hlt hx8
      have hn64 : n < 18446744073709551616 := by
        have h1 := HNL.out
        have h56 : 256 ^ k ≤ 256 ^ 7 := Nat.pow_le_pow_right (by omega) (by omega)
        simp only [Nat.reducePow] at h56
        omega
      obtain ⟨q, hq⟩ : ∃ q, 8 * k = q := ⟨_, rfl⟩
      obtain ⟨m, hm⟩ : ∃ m, n + x * 256 ^ k = m := ⟨_, rfl⟩
      rw [hm] at HN2 hor
      rw [hq] at hor
      have i0 : (k : Int) < 8 := by omega
      have i5 : (8 : Int) * (k : Int) = (q : Nat) := by omega
      have wq : IntKind.i64.wrap ((q : Nat) : Int) = (q : Nat) := by rw [IntKind.wrap_i64]; omega
      have wk : IntKind.i64.wrap ((k : Int) + 1) = (k : Int) + 1 := by rw [IntKind.wrap_i64]; omega
      have wx : IntKind.u64.wrap (x : Int) = (x : Int) := by rw [IntKind.wrap_u64]; omega
      clear hx hq hm HN HNL
      go_wp2
      go_roundw
      case rel => exact ⟨k + 1, m, by omega, by go_num, rfl, HN2.out, trivial⟩
      case measure => simp [intOf]; omega
    · obtain rfl : k = 8 := by omega
      go_wp2
      go_ret
      exact ⟨by rw [HN.out]; rfl, HB.out⟩
end Go.Proofs.Ytkialijipcbgkaa
